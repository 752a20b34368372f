/- The reference's natural numbers: the greatest common divisor, and how many binary digits a number has. -/
import Derived.Test.YtmejbkfamapnkaaGreatDoorZOver9
import Derived.Test.YtmejbkfamapnkaaGreatDoorZM9
import Derived.Laws.IdiomStrings

/- The reference's natural numbers: the greatest common divisor, and how many binary digits a number has. -/
section
namespace Go.Proofs.YtmejbkfamapnkaaGreatDoor
open Go.RowKit Go.Deep

theorem r_over (w : World) (u v : Value) (x y : Nat) (hu : N9At w u x) (hv : N9At w v y) (hn : nw9 x ≤ 100000000) (hn' : nw9 y ≤ 100000000) (hy : 0 < y) :
    Calls Tryz.prog 86 #[u, v] w (Over9 x y w) := by
  rcases Nat.lt_or_ge 2 (nw9 x) with h1 | h1
  · exact r_over_big w u v x y hu hv hn hn' (.inl h1) hy
  · rcases Nat.lt_or_ge 2 (nw9 y) with h2 | h2
    · exact r_over_big w u v x y hu hv hn hn' (.inr ⟨h1, h2⟩) hy
    · exact r_over_small w u v x y hu hv h1 h2 hy

set_option maxHeartbeats 1000000 in
theorem r_common (w : World) (u v : Value) (x y : Nat) (hu : N9At w u x) (hv : N9At w v y) (hn : nw9 x ≤ 100000000) (hn' : nw9 y ≤ 100000000) :
    Calls Tryz.prog 81 #[u, v] w (Nat9 (Nat.gcd x y) w) := by
  have HU := Lib.hid hu
  have HV := Lib.hid hv
  obtain ⟨A, c, rfl, -, -, -⟩ := hu
  obtain ⟨A', c', rfl, -, -, -⟩ := hv
  go_enter Tryz.func81, Tryz.ntmps81
  go_wp2
  go_loopg [0, 1] y (fun g s t wr => ∃ a b, g = 0 + b ∧ Hid (N9At wr s a ∧ N9At wr t b ∧ Nat.gcd a b = Nat.gcd x y ∧ nw9 a ≤ 100000000 ∧ nw9 b ≤ 100000000 ∧ Below w.heap.size w wr))
  case atStart => exact ⟨x, y, (Nat.zero_add _).symm, HU.out, HV.out, rfl, hn, hn', Below.refl _ _⟩
  case round =>
    obtain ⟨a, b, rfl, H⟩ := hrel
    obtain ⟨h1, h2, h3, h4, h5, h6⟩ := H.out
    obtain ⟨A1, c1, rfl, -, -, -⟩ := h1
    obtain ⟨A2, c2, rfl, -, -, -⟩ := h2
    clear h3 h4 h5 h6
    by_cases hb : b = 0
    · subst hb
      have e : nw9 0 = 0 := nw_zero9
      rw [e] at H ⊢
      clear e
      go_wp2
      go_ret
      obtain ⟨h1, h2, h3, h4, h5, h6⟩ := H.out
      rw [Nat.gcd_zero_right] at h3
      subst h3
      exact ⟨_, rfl, h1, h6⟩
    · have hb0 : 0 < nw9 b := (nw_pos9 b).2 (by omega)
      have hlt : a % b < b := Nat.mod_lt _ (by omega)
      go_wp2_with fail
      refine (r_over wr _ _ a b H.out.1 H.out.2.1 H.out.2.2.2.1 H.out.2.2.2.2.1 (by omega)).mono ?_
      rintro e w1 ⟨q, r, rfl, hq, hr, hb1⟩
      have H' : Hid (N9At w1 (.slice A2 (nw9 b) c2) b ∧ N9At w1 r (a % b) ∧ Nat.gcd b (a % b) = Nat.gcd x y ∧ nw9 b ≤ 100000000 ∧ nw9 (a % b) ≤ 100000000 ∧ Below w.heap.size w w1) :=
        ⟨H.out.2.1.below hb1, hr, by rw [← H.out.2.2.1, Nat.gcd_comm a b, Nat.gcd_rec b a, Nat.gcd_comm], H.out.2.2.2.2.1, Nat.le_trans (nw_mono9 (Nat.le_of_lt hlt)) H.out.2.2.2.2.1, H.out.2.2.2.2.2.trans (hb1.mono H.out.2.2.2.2.2.size)⟩
      obtain ⟨A3, c3, rfl, -, -, -⟩ := hr
      obtain ⟨A4, c4, rfl, -, -, -⟩ := hq
      clear hb1
      generalize a % b = m at *
      go_wp2
      go_roundg (0 + m)
      case measure => omega
      case rel => exact ⟨b, m, rfl, H'⟩

end Go.Proofs.YtmejbkfamapnkaaGreatDoor
end

/- The reference's decimal strings. -/
section
namespace Go.Proofs.YtmejbkfamapnkaaGreatDoor
open Go.RowKit Go.Deep

theorem ba_cons (c : UInt8) (P : List UInt8) : (⟨#[c]⟩ ++ ⟨P.toArray⟩ : ByteArray) = ⟨(c :: P).toArray⟩ := by
  apply ByteArray.ext
  rw [ByteArray.data_append]
  simp
theorem ba_tail (c : UInt8) (T : List UInt8) (k : Nat) (h : T.length = k) : (⟨(c :: T).toArray⟩ : ByteArray).extract 1 (k + 1) = ⟨T.toArray⟩ := by
  apply ByteArray.ext
  rw [ByteArray.data_extract]
  apply Array.ext'
  simp
  rw [← h]
  simp
def strOf9 (l : List UInt8) : Value := .string ⟨l.toArray⟩
set_option maxRecDepth 100000 in
set_option maxHeartbeats 2000000 in
theorem r_decimal (w : World) (u : Value) (x : Nat) (hu : N9At w u x) (hn : nw9 x ≤ 100000000) :
    Calls Tryz.prog 74 #[u] w fun e w' => e = .returned (.string ⟨(Lib.decDigits x).toArray⟩) ∧ Below w.heap.size w w' := by
  have HU := Lib.hid hu
  obtain ⟨A, c, rfl, -, -, h3⟩ := hu
  by_cases hx0 : x = 0
  · subst hx0
    rw [nw_zero9]
    clear h3
    go_enter Tryz.func74, Tryz.ntmps74
    go_wp2
    go_ret
    exact ⟨by rw [dec_small 0 (by omega)]; rfl, Below.refl _ _⟩
  · have hb0 : 0 < nw9 x := (nw_pos9 x).2 (by omega)
    have hbe : ((nw9 x : Int) == 0) = false := by rw [beq_eq_false_iff_ne]; omega
    obtain ⟨b, o, rfl, hbb, hcell⟩ := h3 hb0
    have HC := Lib.hid hcell
    clear hcell h3
    go_enter Tryz.func74, Tryz.ntmps74
    go_wp2
    go_loopg [3, 4] (nw9 x) (fun g out i wr => ∃ n : Nat, g = nw9 x - n ∧ n ≤ nw9 x ∧ i = .int .i64 n ∧ out = strOf9 (pad (9 * n) x) ∧ Below w.heap.size w wr)
    case atStart => exact ⟨0, by omega, Nat.zero_le _, rfl, rfl, Below.refl _ _⟩
    case round =>
      obtain ⟨n, rfl, hn2, rfl, rfl, hb⟩ := hrel
      by_cases hlt : n < nw9 x
      · have hxc : wr.cell? ⟨b, o + n, none⟩ = some (U9 (dig9 x n)) := (hb.cell (p := ⟨b, o + n, none⟩) hbb).trans (HC.out n hlt)
        have HB := Lib.hid hb
        clear hb
        unfold strOf9
        go_wp2
        obtain ⟨wo, rfl⟩ : ∃ wo : World, wo = wr := ⟨_, rfl⟩
        go_loopg [3, 5, 6] 9 (fun g out d k wr => ∃ j : Nat, g = 9 - j ∧ j ≤ 9 ∧ k = .int .i64 j ∧ d = U9 (dig9 x n / 10 ^ j) ∧ out = strOf9 (pad (9 * n + j) x) ∧ Below w.heap.size w wr)
        case atStart => exact ⟨0, by omega, by omega, rfl, by simp, rfl, HB.out⟩
        case round =>
          obtain ⟨j, rfl, hj, rfl, rfl, rfl, hb2⟩ := hrel
          have HB2 := Lib.hid hb2
          clear hb2
          unfold strOf9
          by_cases hj9 : j < 9
          · have hd : dig9 x n / 10 ^ j < 1000000000 := Nat.lt_of_le_of_lt (Nat.div_le_self _ _) (dig_lt9 x n)
            have HP := Lib.hid (pad_dig9 x n j hj9)
            have HN : Hid (dig9 x n / 10 ^ j / 10 = dig9 x n / 10 ^ (j + 1)) := by show _ = _; rw [Nat.pow_succ, Nat.div_div_eq_div_mul]
            generalize dig9 x n / 10 ^ j = d at *
            generalize hpp : pad (9 * n + j) x = P at *
            have hcv : (convert 134 9 (.slice (some ⟨wr.heap.size, 0, none⟩) 1 1)).run Tryz.prog (wr.alloc (.cells #[.int .u8 (48 + (d : Int) % 10)] 5)) = .ok (.string ⟨#[UInt8.ofNat (48 + d % 10)]⟩) (wr.alloc (.cells #[.int .u8 (48 + (d : Int) % 10)] 5)) := by
              refine run_convert_bytes_back _ 134 9 5 ⟨wr.heap.size, 0, none⟩ 1 [UInt8.ofNat (48 + d % 10)] Tryz.underlying134 Tryz.underlying5 Tryz.underlying9 fun j hj => ?_
              have hj0 : j = 0 := by simpa using hj
              subst hj0
              have h9 := (World.rowIs_alloc wr #[.int .u8 (48 + (d : Int) % 10)] 5 (fun _ => .int .u8 (48 + (d : Int) % 10)) (fun i hi => by
                have h9 : i = 0 := by simpa using hi
                subst h9
                rfl)).cell (i := 0) (by simp)
              refine h9.trans ?_
              have e9 : (UInt8.ofNat (48 + d % 10)).toNat = 48 + d % 10 := by rw [UInt8.toNat_ofNat']; omega
              show some (Value.int .u8 _) = some (Value.int .u8 ((UInt8.ofNat (48 + d % 10)).toNat : Int))
              rw [e9]
              congr 2
            have hPL : ¬ 9223372036854775807 < 1 + P.length := by rw [← hpp, pad_length]; omega
            have HPP : Hid (pad (9 * n + (j + 1)) x = UInt8.ofNat (48 + d % 10) :: P) := by
              show _ = _
              rw [← hpp, show 9 * n + (j + 1) = (9 * n + j) + 1 by omega, pad_cons, HP.out]
            have Hd := Lib.hid hd
            generalize UInt8.ofNat (48 + d % 10) = ch at *
            clear hpp
            go_wp2
            go_roundg (9 - (j + 1))
            case measure => omega
            case rel =>
              refine ⟨j + 1, rfl, by omega, by go_num, ?_, ?_, HB2.out.alloc HB2.out.size _⟩
              · exact congrArg (Value.int .u32) (by rw [← HN.out]; omega)
              · rw [HPP.out, strOf9, ba_cons]
          · obtain rfl : j = 9 := by omega
            have HPn : Hid (9 * n + 9 = 9 * (n + 1)) := by show _ = _; omega
            generalize hpp : pad (9 * n + 9) x = P at *
            have HPP := Lib.hid hpp
            clear hpp
            go_wp2
            go_roundg (nw9 x - (n + 1))
            case measure => omega
            case rel => exact ⟨n + 1, rfl, by omega, by go_num, by rw [← HPn.out, HPP.out]; rfl, HB2.out⟩
      · obtain rfl : n = nw9 x := by omega
        have hm : x < 10 ^ (9 * nw9 x) := by
          have := lt_nw9 x
          rw [Nat.pow_mul]; exact this
        have HB := Lib.hid hb
        have hm9 : 9 * nw9 x ≤ 900000000 := by omega
        have hm1 : 1 ≤ 9 * nw9 x := by omega
        generalize 9 * nw9 x = M at *
        have HM := Lib.hid hm
        clear hb hm
        unfold strOf9
        go_wp2
        obtain ⟨wo, rfl⟩ : ∃ wo : World, wo = wr := ⟨_, rfl⟩
        go_loopg [3] M (fun g out wr => ∃ m : Nat, g = 0 + m ∧ 1 ≤ m ∧ m ≤ M ∧ Hid (x < 10 ^ m) ∧ out = strOf9 (pad m x) ∧ wr = wo)
        case atStart => exact ⟨M, (Nat.zero_add _).symm, hm1, Nat.le_refl _, HM.out, rfl, rfl⟩
        case round =>
          obtain ⟨m, rfl, h1, h2, HX, rfl, rfl⟩ := hrel
          obtain ⟨k, rfl⟩ : ∃ k, m = k + 1 := ⟨m - 1, by omega⟩
          unfold strOf9
          by_cases hk : k = 0 ∨ x / 10 ^ k % 10 ≠ 0
          · have HE := Lib.hid (pad_dec k x HX.out hk)
            have hHD : k = 0 ∨ (0 < k ∧ x / 10 ^ k % 10 ≠ 0) := by
              rcases hk with h9 | h9
              · exact .inl h9
              · rcases Nat.eq_zero_or_pos k with h8 | h8
                · exact .inl h8
                · exact .inr ⟨h8, h9⟩
            clear hk
            have hT : (pad k x).length = k := pad_length k x
            rw [HE.out]
            have HC := Lib.hid (HE.out.symm.trans (pad_cons k x))
            generalize hDx : Lib.decDigits x = D at *
            have HDx := Lib.hid hDx
            clear hDx
            generalize pad k x = T at *
            have hlt : x / 10 ^ k % 10 < 10 := Nat.mod_lt _ (by decide)
            generalize x / 10 ^ k % 10 = d at *
            have hch : (UInt8.ofNat (48 + d)).toNat = 48 + d := by rw [UInt8.toNat_ofNat']; omega
            generalize UInt8.ofNat (48 + d) = ch at *
            rw [HC.out]
            have hlen : (ch :: T).length = k + 1 := by rw [List.length_cons, hT]
            rcases hHD with rfl | ⟨hk0, hd0⟩
            · have hT0 : T = [] := List.eq_nil_of_length_eq_zero hT
              subst hT0
              have HCr := Lib.hid HC.out
              clear hch hlen hT
              go_wp2
              go_ret
              exact ⟨by rw [HDx.out, HCr.out]; rfl, HB.out⟩
            · have hne : ((ch.toNat : Int) == 48) = false := by rw [beq_eq_false_iff_ne]; omega
              have Hch := Lib.hid hch
              clear hch
              have HNe := Lib.hid hne
              clear hne
              go_wp2
              · rename_i h9
                have h8 : ((ch.toNat : Int) == 48) = true := h9
                rw [HNe.out] at h8
                cases h8
              · go_ret
                exact ⟨by rw [HDx.out, HC.out]; rfl, HB.out⟩
          · obtain ⟨hk0, hd0⟩ : 0 < k ∧ x / 10 ^ k % 10 = 0 := by
              constructor
              · rcases Nat.eq_zero_or_pos k with h8 | h8
                · exact absurd (.inl h8) hk
                · exact h8
              · rcases Nat.eq_zero_or_pos (x / 10 ^ k % 10) with h8 | h8
                · exact h8
                · exact absurd (.inr (by omega)) hk
            have HX' : Hid (x < 10 ^ k) := pad_top k x HX.out hd0
            rw [pad_cons, hd0]
            have hT : (pad k x).length = k := pad_length k x
            have hTT : Hid (pad k x = pad k x) := rfl
            clear hk
            generalize hgT : pad k x = T at *
            have HGT := Lib.hid hgT
            clear hgT
            go_wp2
            go_roundg (0 + k)
            case measure => omega
            case rel => exact ⟨k, rfl, by omega, by omega, HX', by rw [HGT.out, strOf9, ba_tail _ _ _ hT], rfl⟩
end Go.Proofs.YtmejbkfamapnkaaGreatDoor
end
