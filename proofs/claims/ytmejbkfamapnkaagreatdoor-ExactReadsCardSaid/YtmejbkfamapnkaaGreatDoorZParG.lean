/- Reading decimal digits: whatever the string. -/
import Derived.Test.YtmejbkfamapnkaaGreatDoorZInv
import Derived.Test.YtmejbkfamapnkaaGreatDoorZFmt
import Derived.Lib.IndexMore
import Derived.Test.YtmejbkfamapnkaaGreatDoorZGcd3
import Derived.Test.YtmejbkfamapnkaaGreatDoorZRing
import Derived.Test.YtmejbkfamapnkaaGreatDoorShelf
import Derived.Deep.RegionHeld3

/- Reading decimal digits: whatever the string. -/
section
namespace Go.Proofs.YtmejbkfamapnkaaGreatDoor
open Go.RowKit Go.Deep

/-- All bytes of s are digits. -/
def AllDig (s : ByteArray) : Prop := ∀ i (h : i < s.size), 48 ≤ (s[i].toNat : Int) ∧ (s[i].toNat : Int) ≤ 57
/-- The string of a natural number. -/
def IsDec (s : ByteArray) : Prop := 0 < s.size ∧ (1 < s.size → ∀ h : 0 < s.size, (s[0].toNat : Int) ≠ 48) ∧ AllDig s
noncomputable instance (s : ByteArray) : Decidable (IsDec s) := Classical.propDecidable _

set_option maxRecDepth 100000 in
set_option maxHeartbeats 2000000 in
theorem c_isDecimal (s : ByteArray) (w : World) (hs : s.size ≤ 10000) :
    Calls Tryz.prog 123 #[.string s] w fun e w' => e = .returned (.bool (decide (IsDec s))) ∧ w = w' := by
  by_cases h0 : s.size = 0
  · have hd : ¬ IsDec s := fun h => by have := h.1; omega
    rw [decide_eq_false hd]
    have he : s.toList = [] := (toList_noS s).2 (by apply ByteArray.ext; exact Array.eq_empty_of_size_eq_zero h0)
    clear hd
    go_enter Tryz.func123, Tryz.ntmps123
    go_wp2
    go_ret
    exact ⟨rfl, rfl⟩
  · have he : s.toList ≠ [] := fun h => h0 (by rw [(toList_noS s).1 h]; rfl)
    have hp : 0 < s.size := by omega
    have he2 : (s.toList == []) = false := by rw [beq_eq_false_iff_ne]; exact he
    by_cases h1 : 1 < s.size ∧ (s[0].toNat : Int) = 48
    · have hd : ¬ IsDec s := fun h => h.2.1 h1.1 hp h1.2
      rw [decide_eq_false hd]
      have a1 : (1 : Int) < s.size := by omega
      have a2 : ((s[0].toNat : Int) == 48) = true := by rw [h1.2]; rfl
      clear hd h0
      go_enter Tryz.func123, Tryz.ntmps123
      go_wp2
      go_ret
      exact ⟨rfl, rfl⟩
    · have HI : Hid (AllDig s → IsDec s) := fun h => ⟨hp, fun a _ b => h1 ⟨a, b⟩, h⟩
      have HN : Hid (¬ AllDig s → ¬ IsDec s) := fun h hd => h hd.2.2
      have hc : ¬ 1 < s.size ∨ (1 < s.size ∧ ((s[0].toNat : Int) == 48) = false) := by
        by_cases ha : 1 < s.size
        · exact .inr ⟨ha, by rw [beq_eq_false_iff_ne]; exact fun hb => h1 ⟨ha, hb⟩⟩
        · exact .inl ha
      generalize hD : decide (IsDec s) = D at *
      have HD := Lib.hid hD
      clear hD h1 h0 he
      rcases hc with a1 | ⟨a1, a2⟩
      all_goals
        go_enter Tryz.func123, Tryz.ntmps123
        go_wp2
        go_loop [3, 18] (fun _ i => ∃ k : Nat, k ≤ s.size ∧ i = .int .i64 k ∧ Hid (∀ j (h : j < s.size), j < k → 48 ≤ (s[j].toNat : Int) ∧ (s[j].toNat : Int) ≤ 57)) (fun _ i => s.size - (intOf i).toNat)
        case atStart => exact ⟨0, Nat.zero_le _, rfl, fun j _ hj => absurd hj (by omega)⟩
        case round =>
          obtain ⟨k, hk, rfl, HJ⟩ := hrel
          by_cases hlt : k < s.size
          · by_cases hb : 48 ≤ (s[k].toNat : Int) ∧ (s[k].toNat : Int) ≤ 57
            · have HN1 : Hid (∀ j (h : j < s.size), j < k + 1 → 48 ≤ (s[j].toNat : Int) ∧ (s[j].toNat : Int) ≤ 57) := fun j h hj => by
                by_cases hjk : j = k
                · subst hjk; exact hb
                · exact HJ.out j h (by omega)
              obtain ⟨g1, g2⟩ := hb
              clear HJ
              go_wp2
              go_round
              case rel => exact ⟨k + 1, by omega, by go_num, HN1⟩
              case measure => simp [intOf]; omega
            · have HF : Hid (D = false) := by
                have h9 : ¬ IsDec s := HN.out fun h => hb (h k hlt)
                show _ = _
                rw [← HD.out]
                exact decide_eq_false h9
              by_cases g1 : 48 ≤ (s[k].toNat : Int)
              · have g2 : ¬ (s[k].toNat : Int) ≤ 57 := fun g2 => hb ⟨g1, g2⟩
                clear HJ hb
                go_wp2
                go_ret
                exact ⟨congrArg (fun b => Ending.returned (Value.bool b)) HF.out.symm, rfl⟩
              · clear HJ hb
                go_wp2
                go_ret
                exact ⟨congrArg (fun b => Ending.returned (Value.bool b)) HF.out.symm, rfl⟩
          · have HF : Hid (D = true) := by
              have h9 : IsDec s := HI.out fun i h => HJ.out i h (by omega)
              show _ = _
              rw [← HD.out]
              exact decide_eq_true h9
            clear HJ
            go_wp2
            go_ret
            exact ⟨congrArg (fun b => Ending.returned (Value.bool b)) HF.out.symm, rfl⟩
end Go.Proofs.YtmejbkfamapnkaaGreatDoor
end

/- Reading decimal digits: the number. -/
section
namespace Go.Proofs.YtmejbkfamapnkaaGreatDoor
open Go.RowKit Go.Deep

/-- The number with these decimal digits. -/
def decN (l : List UInt8) : Nat := l.foldl (fun a b => 10 * a + (b.toNat - 48)) 0
theorem decN_snoc (l : List UInt8) (b : UInt8) : decN (l ++ [b]) = 10 * decN l + (b.toNat - 48) := by
  unfold decN; rw [List.foldl_append]; rfl
theorem decN_append (a : List UInt8) : ∀ n (b : List UInt8), b.length = n → decN (a ++ b) = decN a * 10 ^ n + decN b
  | 0, b, h => by
    obtain rfl : b = [] := List.length_eq_zero_iff.1 h
    rw [List.append_nil, Nat.pow_zero, Nat.mul_one]; rfl
  | n + 1, b, h => by
    have hb : b ≠ [] := by intro e; rw [e] at h; simp at h
    have hl := List.dropLast_concat_getLast hb
    rw [← hl, ← List.append_assoc, decN_snoc, decN_snoc, decN_append a n b.dropLast (by rw [List.length_dropLast]; omega), Nat.pow_succ]
    have : decN a * (10 ^ n * 10) = 10 * (decN a * 10 ^ n) := by rw [Nat.mul_comm (10 ^ n) 10, Nat.mul_left_comm]
    omega
theorem decN_lt : ∀ n (b : List UInt8), b.length = n → (∀ x ∈ b, x.toNat ≤ 57) → decN b < 10 ^ n
  | 0, b, h, _ => by
    obtain rfl : b = [] := List.length_eq_zero_iff.1 h
    decide
  | n + 1, b, h, hd => by
    have hb : b ≠ [] := by intro e; rw [e] at h; simp at h
    have hl := List.dropLast_concat_getLast hb
    have h1 := decN_lt n b.dropLast (by rw [List.length_dropLast]; omega) (fun x hx => hd x (List.dropLast_subset b hx))
    have h2 := hd _ (List.getLast_mem hb)
    rw [← hl, decN_snoc, Nat.pow_succ]
    omega

theorem decN_take (l : List UInt8) (k : Nat) (h : k < l.length) : decN (l.take (k + 1)) = 10 * decN (l.take k) + (l[k].toNat - 48) := by
  rw [List.take_succ_eq_append_getElem h, decN_snoc]
theorem ten_step (f f' : Nat → Nat) (k q P T : Nat) (hf : f' k = (f k * T + q) % W64) (f0 : Nat → Nat) (h0 : ∀ j, j < k → f' j = f0 j) (h : vl f0 k + q * W64 ^ k = vl f k * T + P) :
    vl f' (k + 1) + (f k * T + q) / W64 * W64 ^ (k + 1) = vl f (k + 1) * T + P := by
  rw [vl_succ, vl_succ, vl_congr f' f0 k h0, hf, Nat.pow_succ]
  have h2 := mod_div_mul (f k * T + q) (W64 ^ k)
  generalize (f k * T + q) / W64 = v at *
  generalize (f k * T + q) % W64 = u at *
  generalize W64 ^ k = Q at *
  generalize W64 = W at *
  grind
theorem ten_pow (m : Nat) : 10 ^ (19 * m) ≤ W64 ^ m := by
  rw [Nat.pow_mul]
  exact Nat.pow_le_pow_left (by decide) m

set_option maxRecDepth 100000 in
set_option maxHeartbeats 8000000 in
theorem c_readDecimal (s : ByteArray) (w : World) (hs : s.size ≤ 10000) (hd : AllDig s) :
    Calls Tryz.prog 124 #[.string s] w (NatRet w (decN s.data.toList)) := by
  have hmk := fun W => run_make_row' (P := Tryz.prog) 77 72 (.int .u64 0) 8 Tryz.underlying77 info_u64 rfl .i64 .i64 (s.size / 19 + 1) (by omega) (by omega) W
  simp only [Int.natCast_add, Int.natCast_ediv, Int.cast_ofNat_Int] at hmk
  have HM : Hid (s.size < 19 * (s.size / 19 + 1)) := by show _ < _; omega
  have HM2 : Hid (s.size / 19 + 1 ≤ 10000) := by show _ ≤ _; omega
  have HDg : Hid (∀ x ∈ s.data.toList, 48 ≤ x.toNat ∧ x.toNat ≤ 57) := fun x hx => by
    obtain ⟨i, hi, rfl⟩ := List.getElem_of_mem hx
    have hi' : i < s.size := by simpa using hi
    have := hd i hi'
    have e : s[i] = s.data.toList[i] := rfl
    rw [e] at this
    omega
  have HS := Lib.hid hs
  clear hd
  go_enter Tryz.func124, Tryz.ntmps124
  go_wp2
  clear hmk hs
  generalize hmm : s.size / 19 + 1 = m at *
  have hm1 := HM2.out
  have hrow0 : (w.alloc (.cells (madeCells #[.int .u64 0] m) 72)).rowIs w.heap.size 72 m (fun j => U ((fun _ => 0) j)) := World.rowIs_made _ _ _ _
  have hb0 : Below w.heap.size w (w.alloc (.cells (madeCells #[.int .u64 0] m) 72)) := (Below.refl _ _).alloc (Nat.le_refl _) _
  generalize w.alloc (.cells (madeCells #[.int .u64 0] m) 72) = W at *
  have HR0 := Lib.hid hrow0
  have HB0 := Lib.hid hb0
  clear hrow0 hb0
  go_loopg [0] s.size (fun g sv wr => ∃ (r : ByteArray) (f : Nat → Nat), g = r.size ∧ sv = .string r ∧ wr.rowIs w.heap.size 72 m (fun j => U (f j)) ∧ (∀ j, j < m → f j < W64) ∧ r.size ≤ 10000 ∧ Hid (∃ d, s.data.toList = d ++ r.data.toList ∧ vl f m = decN d ∧ (d = [] ∨ r.size % 19 = 0)) ∧ Below w.heap.size w wr)
  case atStart => exact ⟨s, fun _ => 0, rfl, rfl, HR0.out, fun _ _ => W64_pos, HS.out, ⟨[], rfl, by
      have : ∀ n, vl (fun _ => 0) n = 0 := fun n => by
        induction n with
        | zero => rfl
        | succ n ih => rw [vl_succ, ih]; simp
      rw [this]; rfl, .inl rfl⟩, HB0.out⟩
  case round =>
    obtain ⟨r, f, rfl, rfl, hrow, hf, hr, HD, hb⟩ := hrel
    have HRow := Lib.hid hrow
    have HF := Lib.hid hf
    have HB := Lib.hid hb
    clear hrow hf hb
    by_cases hlt : 0 < r.size
    · obtain ⟨n, hn⟩ : ∃ n, (r.size - 1) % 19 + 1 = n := ⟨_, rfl⟩
      have hn1 : n ≤ 19 := by omega
      have hn2 : n ≤ r.size := by omega
      have hn3 : ((r.size : Int) - 1) % 19 + 1 = (n : Int) := by omega
      have HDr : Hid (∀ i (h : i < r.size), 48 ≤ r[i].toNat ∧ r[i].toNat ≤ 57) := fun i h => by
        obtain ⟨d, e, _⟩ := HD.out
        have hm : r[i] ∈ s.data.toList := by
          rw [e]
          exact List.mem_append_right _ (List.getElem_mem (l := r.data.toList) (by simpa using h))
        exact HDg.out _ hm
      go_wp2
      obtain ⟨wo, rfl⟩ : ∃ wo : World, wo = wr := ⟨_, rfl⟩
      go_loopg [5, 6, 24] n (fun g p _ i wr => ∃ k : Nat, g = n - k ∧ k ≤ n ∧ i = .int .i64 k ∧ p = U (decN (r.data.toList.take k)) ∧ wr = wo)
      case atStart => exact ⟨0, by omega, Nat.zero_le _, rfl, rfl, rfl⟩
      case round =>
        obtain ⟨k, rfl, hk, rfl, rfl, rfl⟩ := hrel
        by_cases hkn : k < n
        · have hkr : k < r.size := by omega
          have HT := Lib.hid (decN_take r.data.toList k (by simpa using hkr))
          have hlt18 : decN (r.data.toList.take k) < 1000000000000000000 := by
            have h1 := decN_lt k (r.data.toList.take k) (by rw [List.length_take]; have : r.data.toList.length = r.size := by simp
                                                            omega) (fun x hx => by
              have hx' := List.mem_of_mem_take hx
              obtain ⟨i, hi, rfl⟩ := List.getElem_of_mem hx'
              exact (HDr.out i (by simpa using hi)).2)
            have h2 : 10 ^ k ≤ 10 ^ 18 := Nat.pow_le_pow_right (by decide) (by omega)
            exact Nat.lt_of_lt_of_le h1 h2
          obtain ⟨c1, c2⟩ := HDr.out k hkr
          generalize decN (r.data.toList.take k) = P at *
          have HG : Hid ((r.data.toList[k]'(by simpa using hkr)) = r[k]) := rfl
          rw [HG.out] at HT
          generalize hch : r[k] = ch at *
          go_wp2
          go_roundg (n - (k + 1))
          case measure => omega
          case rel => exact ⟨k + 1, rfl, by omega, by go_num, congrArg (Value.int .u64) (by rw [HT.out]; omega), rfl⟩
        · obtain rfl : k = n := by omega
          have HPl : Hid (decN (r.data.toList.take k) < 10 ^ k) := decN_lt k _ (by rw [List.length_take]; have : r.data.toList.length = r.size := by simp
                                                                                   omega) (fun x hx => by
            have hx' := List.mem_of_mem_take hx
            obtain ⟨i, hi, rfl⟩ := List.getElem_of_mem hx'
            exact (HDr.out i (by simpa using hi)).2)
          have HPw : Hid (decN (r.data.toList.take k) < W64) := by
            have h2 : 10 ^ k ≤ 10 ^ 19 := Nat.pow_le_pow_right (by decide) hn1
            exact Nat.lt_of_lt_of_le HPl.out (Nat.le_trans h2 (by decide))
          generalize hP : decN (r.data.toList.take k) = P at *
          have HP := Lib.hid hP
          clear hP
          go_wp2
          go_loopg [7, 8, 9, 39] m (fun g c _ _ i wr => ∃ (j q : Nat) (f' : Nat → Nat), g = m - j ∧ j ≤ m ∧ i = .int .i64 j ∧ c = U q ∧ q < W64 ∧ wr.rowIs w.heap.size 72 m (fun j => U (f' j)) ∧ (∀ j, j < m → f' j < W64) ∧ (∀ i, j ≤ i → f' i = f i) ∧ Hid (vl f' j + q * W64 ^ j = vl f j * 10000000000000000000 + P) ∧ Below w.heap.size w wr)
          case atStart => exact ⟨0, P, f, by omega, Nat.zero_le _, rfl, rfl, HPw.out, HRow.out, HF.out, fun _ _ => rfl, by show vl _ 0 + _ * _ = _; simp [vl], HB.out⟩
          case round =>
            obtain ⟨j, q, f', rfl, hj, rfl, rfl, hq, hrow, hf', hfar, HV, hb⟩ := hrel
            by_cases hjm : j < m
            · have hS := hrow.cell (i := j) (by omega)
              have hZ := hrow.frozen j
              have hfj := hf' j hjm
              have hff := hfar j (Nat.le_refl _)
              have HSt := Lib.hid (ten_step f (upd f' j ((f j * 10000000000000000000 + q) % W64)) j q P 10000000000000000000 (upd_same _ _ _) f' (fun i hi => upd_ne _ _ _ _ (by omega)) HV.out)
              have HFar := Lib.hid hfar
              have HFl := Lib.hid hf'
              have HBl := Lib.hid hb
              have HRw := Lib.hid hrow
              have hlo : (f j * 10000000000000000000 + q) % W64 < W64 := Nat.mod_lt _ W64_pos
              have hhi : (f j * 10000000000000000000 + q) / W64 < W64 := by
                rw [← hff]
                refine Nat.div_lt_of_lt_mul ?_
                have := Nat.mul_le_mul (Nat.le_sub_one_of_lt hfj) (show 10000000000000000000 ≤ W64 - 1 by decide)
                unfold W64 at *
                omega
              rw [hff] at hS hfj
              clear hfar hf' hb hrow hff
              go_wp2_with fail
              refine (c_mulWords (f j) 10000000000000000000 q _ hfj (by decide) hq).mono ?_
              rintro e w' ⟨rfl, rfl⟩
              generalize (f j * 10000000000000000000 + q) % W64 = lo at *
              generalize (f j * 10000000000000000000 + q) / W64 = hi at *
              go_wp2
              go_roundg (m - (j + 1))
              case measure => omega
              case rel =>
                exact ⟨j + 1, hi, upd f' j lo, rfl, by omega, by go_num, rfl, hhi, set_nat HRw.out j lo _ rfl, upd_lt f' j _ m (fun i hi _ => HFl.out i hi) hlo, fun i hi => by rw [upd_ne _ _ _ _ (by omega)]; exact HFar.out i (by omega), HSt.out, HBl.out.setCell (Nat.le_refl _) _⟩
            · obtain rfl : j = m := by omega
              have HRw := Lib.hid hrow
              have HFl := Lib.hid hf'
              have HBl := Lib.hid hb
              clear hrow hf' hfar hb
              have HNew : Hid (∃ d, s.data.toList = d ++ (r.extract k r.size).data.toList ∧ vl f' j = decN d ∧ (d = [] ∨ (r.extract k r.size).size % 19 = 0)) := by
                obtain ⟨d, e1, e2, e3⟩ := HD.out
                have hsz : r.data.toList.length = r.size := by simp
                have ex : (r.extract k r.size).data.toList = r.data.toList.drop k := by
                  rw [ByteArray.data_extract]
                  rw [Array.toList_extract, List.extract_eq_take_drop]
                  rw [List.take_of_length_le (by rw [List.length_drop, hsz]; exact Nat.le_refl _)]
                have exs : (r.extract k r.size).size = r.size - k := by
                  rw [ByteArray.size_extract]; omega
                refine ⟨d ++ r.data.toList.take k, by rw [ex, List.append_assoc, List.take_append_drop]; exact e1, ?_, .inr (by rw [exs]; omega)⟩
                have hlk : (r.data.toList.take k).length = k := by rw [List.length_take]; omega
                have h1 := decN_append d k (r.data.toList.take k) hlk
                rw [HP.out] at h1
                have h2 : decN d * 10000000000000000000 = decN d * 10 ^ k := by
                  rcases e3 with rfl | e3
                  · rw [show decN [] = 0 from rfl, Nat.zero_mul, Nat.zero_mul]
                  · have : k = 19 := by omega
                    rw [this]
                have h3 : decN (d ++ r.data.toList.take k) < 10 ^ (d.length + k) := decN_lt _ _ (by rw [List.length_append, hlk]) (fun x hx => by
                  have hx2 : x ∈ s.data.toList := by
                    rw [e1]
                    rcases List.mem_append.1 hx with h | h
                    · exact List.mem_append_left _ h
                    · exact List.mem_append_right _ (List.mem_of_mem_take h)
                  exact (HDg.out x hx2).2)
                have h4 : d.length + k ≤ 19 * j := by
                  have h5 : s.data.toList.length = s.size := by simp
                  have h6 := HM.out
                  rw [e1, List.length_append, hsz] at h5
                  omega
                have h7 : 10 ^ (d.length + k) ≤ W64 ^ j := Nat.le_trans (Nat.pow_le_pow_right (by decide) h4) (ten_pow j)
                have h8 := HV.out
                rw [e2, h2, ← h1] at h8
                have h9 : q = 0 := by
                  rcases Nat.eq_zero_or_pos q with h | h
                  · exact h
                  · have : 1 * W64 ^ j ≤ q * W64 ^ j := Nat.mul_le_mul_right _ h
                    omega
                rw [h9, Nat.zero_mul, Nat.add_zero] at h8
                exact h8
              have HSz : Hid ((r.extract k r.size).size = r.size - k) := by
                show _ = _
                rw [ByteArray.size_extract]; omega
              go_wp2
              go_roundg ((r.extract k r.size).size)
              case measure => rw [HSz.out]; omega
              case rel => exact ⟨r.extract k r.size, f', rfl, rfl, HRw.out, HFl.out, by rw [HSz.out]; omega, HNew.out, HBl.out⟩
    · have hr0 : r.size = 0 := by omega
      have HX : Hid (vl f m = decN s.data.toList ∧ decN s.data.toList < W64 ^ m) := by
        obtain ⟨d, e1, e2, e3⟩ := HD.out
        have hsz : r.data.toList = [] := List.length_eq_zero_iff.1 (by simpa using hr0)
        rw [hsz, List.append_nil] at e1
        rw [e1, ← e2]
        exact ⟨rfl, vl_lt f m HF.out⟩
      have HWd : Hid (Wd wr wr.heap.size (some ⟨w.heap.size, 0, none⟩) m (dig (decN s.data.toList))) := Wd.row HRow.out fun j hj => by
        rw [← HX.out.1, dig_vl f m HF.out j hj]
      generalize decN s.data.toList = x at *
      have HTr := Lib.hid (c_trimmed wr wr.heap.size (some ⟨w.heap.size, 0, none⟩) m m x HWd.out HX.out.2 (Nat.le_refl _) (by omega))
      go_wp2_with fail
      refine HTr.out.mono ?_
      rintro e w' ⟨rfl, rfl⟩
      have HNw : Hid (nw x ≤ m) := (nw_le x m).2 HX.out.2
      go_wp2
      go_ret
      exact ⟨_, rfl, ⟨_, m, rfl, HNw.out, by omega, fun h => by
        obtain ⟨b, o, e1, e2, e3⟩ := HWd.out (by have := HNw.out; omega)
        exact ⟨b, o, e1, e2, fun k hk => e3 k (by have := HNw.out; omega)⟩⟩, HB.out⟩
end Go.Proofs.YtmejbkfamapnkaaGreatDoor
end

/- The string of a rational number, and the number of a string. -/
section
namespace Go.Proofs.YtmejbkfamapnkaaGreatDoor
open Go.RowKit Go.Deep

/-- The string of a natural number, as a list. -/
def DecL (l : List UInt8) : Prop := l ≠ [] ∧ (1 < l.length → l.head? ≠ some 48) ∧ ∀ b ∈ l, 48 ≤ b.toNat ∧ b.toNat ≤ 57
theorem decL_iff (l : List UInt8) : IsDec ⟨l.toArray⟩ ↔ DecL l := by
  have hz : (⟨l.toArray⟩ : ByteArray).size = l.length := by show l.toArray.size = _; simp
  have hg : ∀ i (h : i < (⟨l.toArray⟩ : ByteArray).size), (⟨l.toArray⟩ : ByteArray)[i] = l[i]'(by rw [← hz]; exact h) := fun i h => by
    show l.toArray[i] = _
    simp
  constructor
  · rintro ⟨h1, h2, h3⟩
    refine ⟨fun e => by rw [hz, e] at h1; simp at h1, fun h4 h5 => ?_, fun b hb => ?_⟩
    · have h6 := h2 (by rw [hz]; exact h4) h1
      rw [hg] at h6
      cases l with
      | nil => simp at h4
      | cons a l =>
        simp at h5
        subst h5
        exact h6 rfl
    · obtain ⟨i, hi, rfl⟩ := List.getElem_of_mem hb
      have := h3 i (by rw [hz]; exact hi)
      rw [hg] at this
      omega
  · rintro ⟨h1, h2, h3⟩
    refine ⟨by rw [hz]; exact List.length_pos_iff.2 h1, fun h4 h5 h6 => ?_, fun i hi => ?_⟩
    · rw [hg] at h6
      apply h2 (by rw [← hz]; exact h4)
      cases l with
      | nil => exact absurd rfl h1
      | cons a l =>
        have e : a = 48 := by
          apply UInt8.toNat_inj.1
          have h7 : ((a.toNat : Nat) : Int) = 48 := h6
          have : (48 : UInt8).toNat = 48 := rfl
          omega
        rw [e]; rfl
    · have := h3 ((⟨l.toArray⟩ : ByteArray)[i]) (by rw [hg]; exact List.getElem_mem _)
      omega
theorem ofNat48 (d : Nat) (h : d < 10) : (UInt8.ofNat (48 + d)).toNat = 48 + d := by rw [UInt8.toNat_ofNat']; omega
theorem decN_dec (x : Nat) : decN (Lib.decDigits x) = x := by
  induction x using Nat.strongRecOn with
  | _ x ih =>
    by_cases h : x < 10
    · rw [dec_small x h]
      show 10 * 0 + ((UInt8.ofNat (48 + x)).toNat - 48) = x
      rw [ofNat48 x h]; omega
    · rw [dec_big x h, decN_snoc, ih (x / 10) (by omega), ofNat48 _ (Nat.mod_lt _ (by decide))]
      omega
theorem dec_digit (x : Nat) : ∀ b ∈ Lib.decDigits x, 48 ≤ b.toNat ∧ b.toNat ≤ 57 := by
  induction x using Nat.strongRecOn with
  | _ x ih =>
    by_cases h : x < 10
    · rw [dec_small x h]
      intro b hb
      obtain rfl := List.mem_singleton.1 hb
      rw [ofNat48 x h]; omega
    · rw [dec_big x h]
      intro b hb
      rcases List.mem_append.1 hb with hb | hb
      · exact ih (x / 10) (by omega) b hb
      · obtain rfl := List.mem_singleton.1 hb
        have := Nat.mod_lt x (show 0 < 10 by decide)
        rw [ofNat48 _ this]; omega
theorem dec_head (x : Nat) (hx : x ≠ 0) : (Lib.decDigits x).head? ≠ some 48 := by
  induction x using Nat.strongRecOn with
  | _ x ih =>
    by_cases h : x < 10
    · rw [dec_small x h]
      intro e
      have e2 : UInt8.ofNat (48 + x) = 48 := by simpa using e
      have e3 := ofNat48 x h
      rw [e2] at e3
      have : (48 : UInt8).toNat = 48 := rfl
      omega
    · rw [dec_big x h, List.head?_append]
      have h1 := ih (x / 10) (by omega) (by omega)
      have h2 := dec_ne (x / 10)
      cases hq : Lib.decDigits (x / 10) with
      | nil => exact absurd hq h2
      | cons a l => rw [hq] at h1; simpa using h1
theorem dec_decL (x : Nat) : DecL (Lib.decDigits x) := by
  refine ⟨dec_ne x, fun h => ?_, dec_digit x⟩
  by_cases hx : x = 0
  · subst hx; rw [dec_small 0 (by decide)] at h; simp at h
  · exact dec_head x hx
theorem decN_pos (l : List UInt8) (hl : l ≠ []) (h0 : l.head? ≠ some 48) (hd : ∀ b ∈ l, 48 ≤ b.toNat ∧ b.toNat ≤ 57) : 0 < decN l := by
  cases l with
  | nil => exact absurd rfl hl
  | cons a l =>
    have h1 := decN_append [a] l.length l rfl
    have h2 := hd a (by simp)
    have h3 : a.toNat ≠ 48 := fun e => h0 (by
      have : a = 48 := UInt8.toNat_inj.1 (by rw [e]; rfl)
      rw [this]; rfl)
    have h4 : decN [a] = a.toNat - 48 := by show 10 * 0 + _ = _; omega
    have h5 : 0 < decN [a] * 10 ^ l.length := Nat.mul_pos (by omega) (Nat.pow_pos (by decide))
    have h6 : decN (a :: l) = decN ([a] ++ l) := rfl
    rw [h6, h1]; omega
theorem dec_of : ∀ (n : Nat) (l : List UInt8), l.length = n → DecL l → Lib.decDigits (decN l) = l
  | 0, l, h, hd => absurd (List.length_eq_zero_iff.1 h) hd.1
  | n + 1, l, h, hd => by
    have hl := List.dropLast_concat_getLast hd.1
    have hb := hd.2.2 _ (List.getLast_mem hd.1)
    generalize hgl : l.getLast hd.1 = b at *
    have hbe : UInt8.ofNat (48 + (b.toNat - 48)) = b := by
      apply UInt8.toNat_inj.1
      rw [ofNat48 _ (by omega)]; omega
    by_cases hn : n = 0
    · have hdl : l.dropLast = [] := List.length_eq_zero_iff.1 (by rw [List.length_dropLast]; omega)
      rw [hdl] at hl
      have hN : decN l = b.toNat - 48 := by rw [← hl]; show 10 * 0 + _ = _; omega
      rw [hN, dec_small _ (by omega), hbe]
      exact hl
    · have hne : l.dropLast ≠ [] := by
        intro e
        have : l.dropLast.length = 0 := by rw [e]; rfl
        rw [List.length_dropLast] at this
        omega
      have hhd : l.dropLast.head? ≠ some 48 := by
        have h1 := hd.2.1 (by omega)
        rw [← hl, List.head?_append] at h1
        cases hq : l.dropLast with
        | nil => exact absurd hq hne
        | cons a m => rw [hq] at h1; simpa using h1
      have hdd : DecL l.dropLast := ⟨hne, fun _ => hhd, fun x hx => hd.2.2 x (List.dropLast_subset l hx)⟩
      have ih := dec_of n l.dropLast (by rw [List.length_dropLast]; omega) hdd
      have hp := decN_pos _ hne hhd hdd.2.2
      have hN : decN l = 10 * decN l.dropLast + (b.toNat - 48) := by
        have := decN_snoc l.dropLast b
        rw [hl] at this
        exact this
      rw [hN, dec_big _ (by omega), show (10 * decN l.dropLast + (b.toNat - 48)) / 10 = decN l.dropLast by omega, show (10 * decN l.dropLast + (b.toNat - 48)) % 10 = b.toNat - 48 by omega, ih, hbe]
      exact hl
end Go.Proofs.YtmejbkfamapnkaaGreatDoor
end

/- Which string is that of a rational number: the parts. -/
section
namespace Go.Proofs.YtmejbkfamapnkaaGreatDoor
open Go.RowKit Go.Deep

theorem index_slash (b : UInt8) (l : List UInt8) : Lib.index (b :: l) [47] = if b = 47 then 0 else if Lib.index l [47] == -1 then -1 else Lib.index l [47] + 1 := by
  rw [Lib.index]
  by_cases h : b = 47
  · subst h
    simp [List.isPrefixOf]
  · have h1 : ([47] : List UInt8).isPrefixOf (b :: l) = false := by
      simp [List.isPrefixOf]
      exact fun e => h e.symm
    rw [h1, if_neg h]
    rfl
theorem index_slash_not : ∀ l : List UInt8, 47 ∉ l → Lib.index l [47] = -1
  | [], _ => by rw [Lib.index]; rfl
  | b :: l, h => by
    have h1 : b ≠ 47 := fun e => h (by rw [e]; exact List.mem_cons_self)
    have h2 := index_slash_not l (fun e => h (List.mem_cons_of_mem _ e))
    rw [index_slash, if_neg h1, h2]
    rfl
theorem index_slash_at : ∀ u v : List UInt8, 47 ∉ u → Lib.index (u ++ 47 :: v) [47] = u.length
  | [], v, _ => by rw [List.nil_append, index_slash, if_pos rfl]; rfl
  | b :: u, v, h => by
    have h1 : b ≠ 47 := fun e => h (by rw [e]; exact List.mem_cons_self)
    have h2 := index_slash_at u v (fun e => h (List.mem_cons_of_mem _ e))
    rw [List.cons_append, index_slash, if_neg h1, h2, if_neg (by rw [beq_iff_eq]; omega), List.length_cons]
    omega
theorem cut_not (l : List UInt8) (h : 47 ∉ l) : Lib.cut l [47] = (l, [], false) := by
  unfold Lib.cut
  rw [index_slash_not l h, if_neg (by decide)]
theorem cut_at (u v : List UInt8) (h : 47 ∉ u) : Lib.cut (u ++ 47 :: v) [47] = (u, v, true) := by
  unfold Lib.cut
  rw [index_slash_at u v h, if_pos (by omega), Int.toNat_natCast]
  have e1 : (u ++ 47 :: v).take u.length = u := by rw [List.take_append_of_le_length (Nat.le_refl _), List.take_length]
  have e2 : (u ++ 47 :: v).drop (u.length + [47].length) = v := by
    rw [List.drop_append, List.drop_of_length_le (by simp)]
    simp
  rw [e1]
  exact congrArg (fun x => (u, x, true)) e2
theorem cut_cases : ∀ l : List UInt8, 47 ∉ l ∨ ∃ u v, l = u ++ 47 :: v ∧ 47 ∉ u
  | [] => .inl (by simp)
  | b :: l => by
    by_cases h : b = 47
    · exact .inr ⟨[], l, by rw [h]; rfl, by simp⟩
    · rcases cut_cases l with h1 | ⟨u, v, rfl, h1⟩
      · exact .inl (by simp only [List.mem_cons, not_or]; exact ⟨fun e => h e.symm, h1⟩)
      · exact .inr ⟨b :: u, v, rfl, by simp only [List.mem_cons, not_or]; exact ⟨fun e => h e.symm, h1⟩⟩

/-- The parts of a string: below 0, the digits above, the digits below. -/
def pBel (l : List UInt8) : Bool := Lib.hasPrefix l [45]
def pUp (l : List UInt8) : List UInt8 := (Lib.cut (Lib.trimPrefix l [45]) [47]).1
def pFr (l : List UInt8) : Bool := (Lib.cut (Lib.trimPrefix l [45]) [47]).2.2
def pLo (l : List UInt8) : List UInt8 := if pFr l = true then (Lib.cut (Lib.trimPrefix l [45]) [47]).2.1 else [49]
/-- The parts are those of a number in lowest terms. -/
def PartsOk (l : List UInt8) : Prop := (pFr l = true → pLo l ≠ [49]) ∧ DecL (pUp l) ∧ DecL (pLo l) ∧ (pBel l = true → decN (pUp l) ≠ 0) ∧ decN (pLo l) ≠ 0 ∧ Nat.gcd (decN (pUp l)) (decN (pLo l)) = 1

theorem pre_of (l : List UInt8) : l = (if pBel l = true then [45] else []) ++ Lib.trimPrefix l [45] := by
  unfold pBel Lib.trimPrefix
  cases l with
  | nil => rfl
  | cons a l =>
    by_cases h : a = 45
    · subst h
      simp [Lib.hasPrefix, List.isPrefixOf]
    · have h1 : Lib.hasPrefix (a :: l) [45] = false := by
        simp [Lib.hasPrefix, List.isPrefixOf]
        exact fun e => h e.symm
      rw [h1]
      rfl
theorem digits_no (l : List UInt8) (h : ∀ b ∈ l, 48 ≤ b.toNat ∧ b.toNat ≤ 57) (c : UInt8) (hc : c.toNat < 48) : c ∉ l := fun hm => by
  have := h c hm
  omega
theorem lo_one : pLo [] = [49] := by decide

/-- A string whose parts are those of a number is its string. -/
theorem parts_txt (l : List UInt8) (h : PartsOk l) (q : Rat) (h1 : decide (q.num < 0) = pBel l) (h2 : q.num.natAbs = decN (pUp l)) (h3 : q.den = decN (pLo l)) : l = txt q := by
  obtain ⟨a1, a2, a3, a4, a5, a6⟩ := h
  unfold txt ratText
  rw [h1, h2, h3, dec_of _ _ rfl a2, dec_of _ _ rfl a3]
  refine (pre_of l).trans ?_
  rw [List.append_assoc]
  congr 1
  have hone : decN (pLo l) = 1 → pLo l = [49] := fun e => by
    have := dec_of _ _ rfl a3
    rw [e, dec_small 1 (by decide)] at this
    exact this.symm
  unfold pUp pLo pFr at *
  generalize Lib.trimPrefix l [45] = t at *
  rcases cut_cases t with hn | ⟨u, v, rfl, hu⟩
  · rw [cut_not t hn]
    show t = t ++ if decN [49] = 1 then [] else _
    rw [if_pos (by decide), List.append_nil]
  · rw [cut_at u v hu] at a1 hone ⊢
    rw [if_pos rfl] at a1 hone ⊢
    rw [if_neg (fun e => a1 rfl (hone e))]
/-- The string of a number has its parts. -/
theorem txt_parts (q : Rat) : PartsOk (txt q) ∧ pBel (txt q) = decide (q.num < 0) ∧ decN (pUp (txt q)) = q.num.natAbs ∧ decN (pLo (txt q)) = q.den := by
  have hu := dec_decL q.num.natAbs
  have hv := dec_decL q.den
  have hT : txt q = (if decide (q.num < 0) = true then [45] else []) ++ (Lib.decDigits q.num.natAbs ++ (if q.den = 1 then [] else 47 :: Lib.decDigits q.den)) := by
    unfold txt ratText
    rw [List.append_assoc]
  have hu45 : (45 : UInt8) ∉ Lib.decDigits q.num.natAbs := digits_no _ hu.2.2 45 (by decide)
  have hu47 : (47 : UInt8) ∉ Lib.decDigits q.num.natAbs := digits_no _ hu.2.2 47 (by decide)
  have hB : pBel (txt q) = decide (q.num < 0) ∧ Lib.trimPrefix (txt q) [45] = Lib.decDigits q.num.natAbs ++ (if q.den = 1 then [] else 47 :: Lib.decDigits q.den) := by
    rw [hT]
    unfold pBel Lib.trimPrefix
    cases hneg : decide (q.num < 0) with
    | true => simp [Lib.hasPrefix, List.isPrefixOf]
    | false =>
      have h9 : Lib.hasPrefix (Lib.decDigits q.num.natAbs ++ (if q.den = 1 then [] else 47 :: Lib.decDigits q.den)) [45] = false := by
        cases hq : Lib.decDigits q.num.natAbs with
        | nil => exact absurd hq hu.1
        | cons a m =>
          rw [hq] at hu45
          simp [Lib.hasPrefix, List.isPrefixOf]
          exact fun e => hu45 (by rw [e]; exact List.mem_cons_self)
      rw [if_neg (by decide), List.nil_append, h9]
      exact ⟨rfl, rfl⟩
  obtain ⟨hB1, hB2⟩ := hB
  have hUp : pUp (txt q) = Lib.decDigits q.num.natAbs ∧ pLo (txt q) = Lib.decDigits q.den ∧ (pFr (txt q) = true → q.den ≠ 1) := by
    unfold pLo pFr pUp
    rw [hB2]
    by_cases hd : q.den = 1
    · rw [if_pos hd, List.append_nil, cut_not _ hu47]
      refine ⟨rfl, ?_, fun h => by cases h⟩
      show [49] = _
      rw [hd, dec_small 1 (by decide)]
      rfl
    · rw [if_neg hd, cut_at _ _ hu47]
      exact ⟨rfl, if_pos rfl, fun _ => hd⟩
  obtain ⟨e1, e2, e3⟩ := hUp
  have hden := q.den_pos
  refine ⟨⟨fun hf hl => ?_, by rw [e1]; exact hu, by rw [e2]; exact hv, fun hb => ?_, by rw [e2, decN_dec]; omega, by rw [e1, e2, decN_dec, decN_dec]; exact q.reduced⟩, hB1, by rw [e1, decN_dec], by rw [e2, decN_dec]⟩
  · apply e3 hf
    rw [e2] at hl
    have := decN_dec q.den
    rw [hl] at this
    exact this.symm
  · rw [hB1] at hb
    have := of_decide_eq_true hb
    rw [e1, decN_dec]
    omega
end Go.Proofs.YtmejbkfamapnkaaGreatDoor
end

/- Parsing any string: the program. -/
section
namespace Go.Proofs.YtmejbkfamapnkaaGreatDoor
open Go.RowKit Go.Deep

theorem trim_len (l : List UInt8) : (Lib.trimPrefix l [45]).length ≤ l.length := by
  unfold Lib.trimPrefix
  split
  · rw [List.length_drop]; omega
  · exact Nat.le_refl _
theorem parts_len (l : List UInt8) (n : Nat) (h : l.length ≤ n) (hn : 1 ≤ n) : (pUp l).length ≤ n ∧ (pLo l).length ≤ n := by
  have h1 := trim_len l
  unfold pUp pLo pFr
  generalize Lib.trimPrefix l [45] = t at *
  rcases cut_cases t with hc | ⟨u, v, rfl, hu⟩
  · rw [cut_not t hc, if_neg (by simp)]
    exact ⟨by show t.length ≤ n; omega, by simpa using hn⟩
  · rw [cut_at u v hu, if_pos rfl]
    rw [List.length_append, List.length_cons] at h1
    exact ⟨by show u.length ≤ n; omega, by show v.length ≤ n; omega⟩

theorem dec_words (l : List UInt8) (hd : ∀ b ∈ l, 48 ≤ b.toNat ∧ b.toNat ≤ 57) (hl : l.length ≤ 10000) : nw (decN l) ≤ 1000000000 := by
  have h1 := decN_lt _ l rfl (fun x hx => (hd x hx).2)
  have h2 : 10 ^ l.length ≤ 10 ^ (19 * l.length) := Nat.pow_le_pow_right (by decide) (by omega)
  have h3 := (nw_le (decN l) l.length).2 (Nat.lt_of_lt_of_le h1 (Nat.le_trans h2 (ten_pow l.length)))
  omega

set_option maxRecDepth 100000 in
set_option maxHeartbeats 8000000 in
theorem v_Parse (s : ByteArray) (m : Int) (w : World) (hs : s.size ≤ 10000) (hm : w.cell? ⟨5, 0, none⟩ = some (.int .i64 m)) :
    Calls Tryz.prog 68 #[.string s] w fun e w' => (∃ u q, e = .returned (.tuple #[u, .int .i64 0]) ∧ s.data.toList = txt q ∧ RatV w' u q ∧ Below w.heap.size w w') ∨ (e = .returned (.tuple #[.pointer none, .int .i64 7]) ∧ (∀ q, s.data.toList ≠ txt q) ∧ Below w.heap.size w w') := by
  have h0 : 5 < w.heap.size := by
    by_cases h : 5 < w.heap.size
    · exact h
    · exfalso
      have : w.heap[5]? = none := Array.getElem?_eq_none (by omega)
      simp [World.cell?, this] at hm
  have HM : Hid (∀ W', Below w.heap.size w W' → W'.cell? ⟨5, 0, none⟩ = some (.int .i64 m)) := fun W' hw => (hw.cell (p := ⟨5, 0, none⟩) h0).trans hm
  have HNo : Hid (¬ PartsOk s.data.toList → ∀ q, s.data.toList ≠ txt q) := fun h q e => h (by rw [e]; exact (txt_parts q).1)
  have hlen : s.data.toList.length = s.size := by simp
  obtain ⟨hl1, hl2⟩ := parts_len s.data.toList 10000 (by omega) (by omega)
  have HP := Lib.hid (Tryz.strings_CutPrefix s ⟨#[45]⟩ w)
  have HC := Lib.hid (Tryz.strings_Cut ⟨(Lib.trimPrefix s.data.toList [45]).toArray⟩ ⟨#[47]⟩ m w (by
    have := trim_len s.data.toList
    show (Lib.trimPrefix s.data.toList [45]).toArray.size < _
    simp; omega) hm)
  have HIu := Lib.hid (fun W => c_isDecimal ⟨(pUp s.data.toList).toArray⟩ W (by show (pUp s.data.toList).toArray.size ≤ _; simpa using hl1))
  have HIl := Lib.hid (fun W => c_isDecimal ⟨(pLo s.data.toList).toArray⟩ W (by show (pLo s.data.toList).toArray.size ≤ _; simpa using hl2))
  have HRu : Hid (DecL (pUp s.data.toList) → ∀ W, Calls Tryz.prog 124 #[.string ⟨(pUp s.data.toList).toArray⟩] W (NatRet W (decN (pUp s.data.toList)))) := fun h W => by
    have := c_readDecimal ⟨(pUp s.data.toList).toArray⟩ W (by show (pUp s.data.toList).toArray.size ≤ _; simpa using hl1) ((decL_iff _).2 h).2.2
    simpa using this
  have HRl : Hid (DecL (pLo s.data.toList) → ∀ W, Calls Tryz.prog 124 #[.string ⟨(pLo s.data.toList).toArray⟩] W (NatRet W (decN (pLo s.data.toList)))) := fun h W => by
    have := c_readDecimal ⟨(pLo s.data.toList).toArray⟩ W (by show (pLo s.data.toList).toArray.size ≤ _; simpa using hl2) ((decL_iff _).2 h).2.2
    simpa using this
  have WU : Hid (DecL (pUp s.data.toList) → nw (decN (pUp s.data.toList)) ≤ 1000000000) := fun h => dec_words _ h.2.2 (by omega)
  have WL : Hid (DecL (pLo s.data.toList) → nw (decN (pLo s.data.toList)) ≤ 1000000000) := fun h => dec_words _ h.2.2 (by omega)
  generalize hdu : decide (IsDec ⟨(pUp s.data.toList).toArray⟩) = du at *
  generalize hdl : decide (IsDec ⟨(pLo s.data.toList).toArray⟩) = dl at *
  have HDu : Hid (du = true ↔ DecL (pUp s.data.toList)) := by show _ ↔ _; rw [← hdu, decide_eq_true_iff]; exact decL_iff _
  have HDl : Hid (dl = true ↔ DecL (pLo s.data.toList)) := by show _ ↔ _; rw [← hdl, decide_eq_true_iff]; exact decL_iff _
  clear hdu hdl hl1 hl2 h0 hm hlen
  have HeU : Hid ((Lib.cut (Lib.trimPrefix s.data.toList [45]) [47]).1 = pUp s.data.toList) := rfl
  have HeB : Hid (Lib.hasPrefix s.data.toList [45] = pBel s.data.toList) := rfl
  have HeF : Hid ((Lib.cut (Lib.trimPrefix s.data.toList [45]) [47]).2.2 = pFr s.data.toList) := rfl
  have HeL : Hid (pLo s.data.toList = if pFr s.data.toList = true then (Lib.cut (Lib.trimPrefix s.data.toList [45]) [47]).2.1 else [49]) := rfl
  have HP' : Hid (∀ W, W = w → Calls Tryz.prog 65 #[.string s, .string ⟨#[45]⟩] W fun e w' => e = .returned (.tuple #[.string ⟨(Lib.trimPrefix s.data.toList [45]).toArray⟩, .bool (pBel s.data.toList)]) ∧ w' = W) := fun W hW => by subst hW; exact HP.out
  have HC' : Hid (Calls Tryz.prog 122 #[.string ⟨(Lib.trimPrefix s.data.toList [45]).toArray⟩, .string ⟨#[47]⟩] w fun e w' => e = .returned (.tuple #[.string ⟨(pUp s.data.toList).toArray⟩, .string ⟨((Lib.cut (Lib.trimPrefix s.data.toList [45]) [47]).2.1).toArray⟩, .bool (pFr s.data.toList)]) ∧ ∃ n, w' = w.drewN n) := HC.out
  clear HP HC HeU HeB HeF
  generalize (Lib.cut (Lib.trimPrefix s.data.toList [45]) [47]).2.1 = L1 at *
  generalize (Lib.trimPrefix s.data.toList [45]).toArray = Ts at *
  generalize hUs : (pUp s.data.toList).toArray = Us at *
  cases hF : pFr s.data.toList
  · rw [hF] at HC' HeL
    rw [if_neg (by decide)] at HeL
    have HLs : Hid ((pLo s.data.toList).toArray = #[49]) := by show _ = _; rw [HeL.out]
    rw [HLs.out] at HIl HRl
    have HFr : Hid (pFr s.data.toList = true → pLo s.data.toList ≠ [49]) := fun h => by rw [hF] at h; cases h
    clear hF hUs
    go_enter Tryz.func68, Tryz.ntmps68
    go_wp2_with fail
    refine (HP'.out w rfl).mono ?_
    rintro e w' ⟨rfl, rfl⟩
    go_wp2_with fail
    refine HC'.out.mono ?_
    rintro e wc ⟨rfl, nc, hwc⟩
    have HBc : Hid (Below w'.heap.size w' wc) := by rw [hwc]; exact below_drewN (Below.refl _ _) nc
    clear hwc
    cases hdu : du
    · have HUn : Hid (¬ DecL (pUp s.data.toList)) := fun h => by
        have := HDu.out.2 h
        rw [hdu] at this
        cases this
      rw [hdu] at HIu
      clear hdu
      go_wp2_with fail
      refine (HIu.out wc).mono ?_
      rintro e w' ⟨rfl, rfl⟩
      go_wp2
      go_ret2
      exact .inr ⟨rfl, HNo.out (fun h => HUn.out h.2.1), HBc.out⟩
    · have HUy : Hid (DecL (pUp s.data.toList)) := HDu.out.1 hdu
      rw [hdu] at HIu
      clear hdu
      go_wp2_with fail
      refine (HIu.out wc).mono ?_
      rintro e w' ⟨rfl, rfl⟩
      cases hdl : dl
      · have HLn : Hid (¬ DecL (pLo s.data.toList)) := fun h => by
          have := HDl.out.2 h
          rw [hdl] at this
          cases this
        rw [hdl] at HIl
        clear hdl
        go_wp2_with fail
        refine (HIl.out wc).mono ?_
        rintro e w' ⟨rfl, rfl⟩
        go_wp2
        go_ret2
        exact .inr ⟨rfl, HNo.out (fun h => HLn.out h.2.2.1), HBc.out⟩
      · have HLy : Hid (DecL (pLo s.data.toList)) := HDl.out.1 hdl
        rw [hdl] at HIl
        clear hdl
        go_wp2_with fail
        refine (HIl.out wc).mono ?_
        rintro e w' ⟨rfl, rfl⟩
        go_wp2_with fail
        refine (HRu.out HUy.out wc).mono ?_
        rintro e x1 ⟨u1, rfl, hu1, hb1⟩
        have HU1 := Lib.hid hu1
        have HB1 := Lib.hid hb1
        obtain ⟨A1, c1, rfl, _, _, _⟩ := hu1
        clear hb1
        go_wp2_with fail
        refine (HRl.out HLy.out x1).mono ?_
        rintro e x2 ⟨u2, rfl, hu2, hb2⟩
        have HU2 := Lib.hid (HU1.out.below hb2)
        have HL2 := Lib.hid hu2
        have HB2 := Lib.hid (btr HBc.out (btr HB1.out hb2))
        obtain ⟨A2, c2, rfl, _, _, _⟩ := hu2
        have HNu : Hid (nw (decN (pUp s.data.toList)) ≤ 1000000000) := WU.out HUy.out
        have HNl : Hid (nw (decN (pLo s.data.toList)) ≤ 1000000000) := WL.out HLy.out
        clear hb2 HRu HRl HIu HIl
        generalize hB : pBel s.data.toList = B at *
        have HB := Lib.hid hB
        generalize hN : decN (pUp s.data.toList) = N at *
        have HN := Lib.hid hN
        generalize hD : decN (pLo s.data.toList) = D at *
        have HD := Lib.hid hD
        clear hB hN hD
        have HGo : Hid ((B = true → N ≠ 0) → D ≠ 0 → Nat.gcd N D = 1 → PartsOk s.data.toList) := fun a b c => ⟨HFr.out, HUy.out, HLy.out, by rw [HB.out, HN.out]; exact a, by rw [HD.out]; exact b, by rw [HN.out, HD.out]; exact c⟩
        have HNg : Hid (PartsOk s.data.toList → (B = true → N ≠ 0) ∧ D ≠ 0 ∧ Nat.gcd N D = 1) := fun h => by
          have h1 := h.2.2.2.1
          have h2 := h.2.2.2.2.1
          have h3 := h.2.2.2.2.2
          rw [HB.out, HN.out] at h1
          rw [HD.out] at h2
          rw [HN.out, HD.out] at h3
          exact ⟨h1, h2, h3⟩
        have hB3 : (B = true ∧ N = 0) ∨ B = false ∨ (B = true ∧ N ≠ 0) := by
          cases B
          · exact .inr (.inl rfl)
          · by_cases hn : N = 0
            · exact .inl ⟨rfl, hn⟩
            · exact .inr (.inr ⟨rfl, hn⟩)
        rcases hB3 with ⟨rfl, hn⟩ | hB3
        · have HX : Hid (¬ PartsOk s.data.toList) := fun h => (HNg.out h).1 rfl hn
          have hz : ((nw N : Int) == 0) = true := by rw [(nw_eq_zero N).2 hn]; rfl
          clear hn
          generalize nw N = nN at *
          go_wp2
          go_ret2
          exact .inr ⟨rfl, HNo.out HX.out, HB2.out⟩
        · have HBN : Hid (B = true → N ≠ 0) := fun h => by
            rcases hB3 with h1 | ⟨_, h1⟩
            · rw [h1] at h; cases h
            · exact h1
          have hz : B = false ∨ (B = true ∧ ((nw N : Int) == 0) = false) := by
            rcases hB3 with h1 | ⟨h1, h2⟩
            · exact .inl h1
            · exact .inr ⟨h1, by rw [beq_eq_false_iff_ne]; have := nw_eq_zero N; omega⟩
          clear hB3
          by_cases hd : D = 0
          · have HX : Hid (¬ PartsOk s.data.toList) := fun h => (HNg.out h).2.1 hd
            have hy : ((nw D : Int) == 0) = true := by rw [(nw_eq_zero D).2 hd]; rfl
            clear hd
            generalize nw N = nN at *
            generalize nw D = nD at *
            rcases hz with rfl | ⟨rfl, hz⟩
            all_goals
              go_wp2
              go_ret2
              exact .inr ⟨rfl, HNo.out HX.out, HB2.out⟩
          · have hy : ((nw D : Int) == 0) = false := by rw [beq_eq_false_iff_ne]; have := nw_eq_zero D; omega
            have HDz : Hid (D ≠ 0) := hd
            have HG := Lib.hid (g_gcd x2 _ _ N D HU2.out HL2.out HNu.out HNl.out)
            have HMd : Hid (∀ W, Below x2.heap.size x2 W → Calls Tryz.prog 45 #[.bool B, .slice A1 (nw N) c1, .slice A2 (nw D) c2] W (RatRet W (sgn B N) N D)) := fun W hW => c_made W _ _ B N D (HU2.out.below hW) (HL2.out.below hW)
            clear hd
            generalize nw N = nN at *
            generalize nw D = nD at *
            rcases hz with rfl | ⟨rfl, hz⟩
            all_goals
              go_wp2_with fail
              refine HG.out.mono ?_
              rintro e x3 ⟨g, rfl, hg, hb3⟩
              have HB3 := Lib.hid hb3
              obtain ⟨A3, c3, rfl, g1, g2, g3⟩ := hg
              have HI := Lib.hid (c_isOne x3 x3.heap.size A3 c3 (Nat.gcd N D) g3)
              have HO : Hid (isOneB (Nat.gcd N D) = true ↔ Nat.gcd N D = 1) := by show _ ↔ _; unfold isOneB; simp
              clear hb3 g1 g2 g3
              go_wp2_with fail
              refine HI.out.mono ?_
              rintro e x4 ⟨rfl, rfl⟩
              cases hone : isOneB (Nat.gcd N D)
              · have HX : Hid (¬ PartsOk s.data.toList) := fun h => by
                  have := HO.out.2 (HNg.out h).2.2
                  rw [hone] at this
                  cases this
                clear hone
                go_wp2
                go_ret2
                exact .inr ⟨rfl, HNo.out HX.out, btr HB2.out HB3.out⟩
              · have HOk : Hid (Nat.gcd N D = 1) := HO.out.1 hone
                clear hone
                go_wp2_with fail
                refine (HMd.out x3 HB3.out).mono ?_
                rintro e x5 ⟨v, rfl, hv, hb5⟩
                have HV := Lib.hid hv
                have HB5 := Lib.hid (btr HB2.out (btr HB3.out hb5))
                clear hv hb5
                go_wp2
                go_ret2
                obtain ⟨q, q1, q2, q3⟩ := rat_exists _ N D (Nat.pos_of_ne_zero HDz.out) HOk.out
                have HPk := HGo.out HBN.out HDz.out HOk.out
                refine .inl ⟨v, q, rfl, parts_txt _ HPk q ?_ (by rw [HN.out]; exact q2.symm) (by rw [HD.out]; exact q3.symm), HV.out.toV q1 q2 q3, HB5.out⟩
                rw [← q1, HB.out]
                have := HBN.out
                unfold sgn
                first
                | rfl
                | (have h9 : N ≠ 0 := this (by first | rfl | trivial); simp; omega)
  · rw [hF] at HC' HeL
    rw [if_pos rfl] at HeL
    have HLs : Hid ((pLo s.data.toList).toArray = L1.toArray) := by show _ = _; rw [HeL.out]
    rw [HLs.out] at HIl HRl
    clear hUs
    by_cases hone : L1 = [49]
    · have HX : Hid (¬ PartsOk s.data.toList) := fun h => h.1 hF (HeL.out.trans hone)
      subst hone
      clear hF
      go_enter Tryz.func68, Tryz.ntmps68
      go_wp2_with fail
      refine (HP'.out w rfl).mono ?_
      rintro e w' ⟨rfl, rfl⟩
      go_wp2_with fail
      refine HC'.out.mono ?_
      rintro e wc ⟨rfl, nc, hwc⟩
      have HBc : Hid (Below w'.heap.size w' wc) := by rw [hwc]; exact below_drewN (Below.refl _ _) nc
      clear hwc
      go_wp2
      go_ret2
      exact .inr ⟨rfl, HNo.out HX.out, HBc.out⟩
    · have HFr : Hid (pFr s.data.toList = true → pLo s.data.toList ≠ [49]) := fun _ h => hone (HeL.out.symm.trans h)
      have hne : (L1 == [49]) = false := by rw [beq_eq_false_iff_ne]; exact hone
      clear hF hone
      go_enter Tryz.func68, Tryz.ntmps68
      go_wp2_with fail
      refine (HP'.out w rfl).mono ?_
      rintro e w' ⟨rfl, rfl⟩
      go_wp2_with fail
      refine HC'.out.mono ?_
      rintro e wc ⟨rfl, nc, hwc⟩
      have HBc : Hid (Below w'.heap.size w' wc) := by rw [hwc]; exact below_drewN (Below.refl _ _) nc
      clear hwc
      cases hdu : du
      · have HUn : Hid (¬ DecL (pUp s.data.toList)) := fun h => by
          have := HDu.out.2 h
          rw [hdu] at this
          cases this
        rw [hdu] at HIu
        clear hdu
        go_wp2_with fail
        refine (HIu.out wc).mono ?_
        rintro e w' ⟨rfl, rfl⟩
        go_wp2
        go_ret2
        exact .inr ⟨rfl, HNo.out (fun h => HUn.out h.2.1), HBc.out⟩
      · have HUy : Hid (DecL (pUp s.data.toList)) := HDu.out.1 hdu
        rw [hdu] at HIu
        clear hdu
        go_wp2_with fail
        refine (HIu.out wc).mono ?_
        rintro e w' ⟨rfl, rfl⟩
        cases hdl : dl
        · have HLn : Hid (¬ DecL (pLo s.data.toList)) := fun h => by
            have := HDl.out.2 h
            rw [hdl] at this
            cases this
          rw [hdl] at HIl
          clear hdl
          go_wp2_with fail
          refine (HIl.out wc).mono ?_
          rintro e w' ⟨rfl, rfl⟩
          go_wp2
          go_ret2
          exact .inr ⟨rfl, HNo.out (fun h => HLn.out h.2.2.1), HBc.out⟩
        · have HLy : Hid (DecL (pLo s.data.toList)) := HDl.out.1 hdl
          rw [hdl] at HIl
          clear hdl
          go_wp2_with fail
          refine (HIl.out wc).mono ?_
          rintro e w' ⟨rfl, rfl⟩
          go_wp2_with fail
          refine (HRu.out HUy.out wc).mono ?_
          rintro e x1 ⟨u1, rfl, hu1, hb1⟩
          have HU1 := Lib.hid hu1
          have HB1 := Lib.hid hb1
          obtain ⟨A1, c1, rfl, _, _, _⟩ := hu1
          clear hb1
          go_wp2_with fail
          refine (HRl.out HLy.out x1).mono ?_
          rintro e x2 ⟨u2, rfl, hu2, hb2⟩
          have HU2 := Lib.hid (HU1.out.below hb2)
          have HL2 := Lib.hid hu2
          have HB2 := Lib.hid (btr HBc.out (btr HB1.out hb2))
          obtain ⟨A2, c2, rfl, _, _, _⟩ := hu2
          have HNu : Hid (nw (decN (pUp s.data.toList)) ≤ 1000000000) := WU.out HUy.out
          have HNl : Hid (nw (decN (pLo s.data.toList)) ≤ 1000000000) := WL.out HLy.out
          clear hb2 HRu HRl HIu HIl
          generalize hB : pBel s.data.toList = B at *
          have HB := Lib.hid hB
          generalize hN : decN (pUp s.data.toList) = N at *
          have HN := Lib.hid hN
          generalize hD : decN (pLo s.data.toList) = D at *
          have HD := Lib.hid hD
          clear hB hN hD
          have HGo : Hid ((B = true → N ≠ 0) → D ≠ 0 → Nat.gcd N D = 1 → PartsOk s.data.toList) := fun a b c => ⟨HFr.out, HUy.out, HLy.out, by rw [HB.out, HN.out]; exact a, by rw [HD.out]; exact b, by rw [HN.out, HD.out]; exact c⟩
          have HNg : Hid (PartsOk s.data.toList → (B = true → N ≠ 0) ∧ D ≠ 0 ∧ Nat.gcd N D = 1) := fun h => by
            have h1 := h.2.2.2.1
            have h2 := h.2.2.2.2.1
            have h3 := h.2.2.2.2.2
            rw [HB.out, HN.out] at h1
            rw [HD.out] at h2
            rw [HN.out, HD.out] at h3
            exact ⟨h1, h2, h3⟩
          have hB3 : (B = true ∧ N = 0) ∨ B = false ∨ (B = true ∧ N ≠ 0) := by
            cases B
            · exact .inr (.inl rfl)
            · by_cases hn : N = 0
              · exact .inl ⟨rfl, hn⟩
              · exact .inr (.inr ⟨rfl, hn⟩)
          rcases hB3 with ⟨rfl, hn⟩ | hB3
          · have HX : Hid (¬ PartsOk s.data.toList) := fun h => (HNg.out h).1 rfl hn
            have hz : ((nw N : Int) == 0) = true := by rw [(nw_eq_zero N).2 hn]; rfl
            clear hn
            generalize nw N = nN at *
            go_wp2
            go_ret2
            exact .inr ⟨rfl, HNo.out HX.out, HB2.out⟩
          · have HBN : Hid (B = true → N ≠ 0) := fun h => by
              rcases hB3 with h1 | ⟨_, h1⟩
              · rw [h1] at h; cases h
              · exact h1
            have hz : B = false ∨ (B = true ∧ ((nw N : Int) == 0) = false) := by
              rcases hB3 with h1 | ⟨h1, h2⟩
              · exact .inl h1
              · exact .inr ⟨h1, by rw [beq_eq_false_iff_ne]; have := nw_eq_zero N; omega⟩
            clear hB3
            by_cases hd : D = 0
            · have HX : Hid (¬ PartsOk s.data.toList) := fun h => (HNg.out h).2.1 hd
              have hy : ((nw D : Int) == 0) = true := by rw [(nw_eq_zero D).2 hd]; rfl
              clear hd
              generalize nw N = nN at *
              generalize nw D = nD at *
              rcases hz with rfl | ⟨rfl, hz⟩
              all_goals
                go_wp2
                go_ret2
                exact .inr ⟨rfl, HNo.out HX.out, HB2.out⟩
            · have hy : ((nw D : Int) == 0) = false := by rw [beq_eq_false_iff_ne]; have := nw_eq_zero D; omega
              have HDz : Hid (D ≠ 0) := hd
              have HG := Lib.hid (g_gcd x2 _ _ N D HU2.out HL2.out HNu.out HNl.out)
              have HMd : Hid (∀ W, Below x2.heap.size x2 W → Calls Tryz.prog 45 #[.bool B, .slice A1 (nw N) c1, .slice A2 (nw D) c2] W (RatRet W (sgn B N) N D)) := fun W hW => c_made W _ _ B N D (HU2.out.below hW) (HL2.out.below hW)
              clear hd
              generalize nw N = nN at *
              generalize nw D = nD at *
              rcases hz with rfl | ⟨rfl, hz⟩
              all_goals
                go_wp2_with fail
                refine HG.out.mono ?_
                rintro e x3 ⟨g, rfl, hg, hb3⟩
                have HB3 := Lib.hid hb3
                obtain ⟨A3, c3, rfl, g1, g2, g3⟩ := hg
                have HI := Lib.hid (c_isOne x3 x3.heap.size A3 c3 (Nat.gcd N D) g3)
                have HO : Hid (isOneB (Nat.gcd N D) = true ↔ Nat.gcd N D = 1) := by show _ ↔ _; unfold isOneB; simp
                clear hb3 g1 g2 g3
                go_wp2_with fail
                refine HI.out.mono ?_
                rintro e x4 ⟨rfl, rfl⟩
                cases hone : isOneB (Nat.gcd N D)
                · have HX : Hid (¬ PartsOk s.data.toList) := fun h => by
                    have := HO.out.2 (HNg.out h).2.2
                    rw [hone] at this
                    cases this
                  clear hone
                  go_wp2
                  go_ret2
                  exact .inr ⟨rfl, HNo.out HX.out, btr HB2.out HB3.out⟩
                · have HOk : Hid (Nat.gcd N D = 1) := HO.out.1 hone
                  clear hone
                  go_wp2_with fail
                  refine (HMd.out x3 HB3.out).mono ?_
                  rintro e x5 ⟨v, rfl, hv, hb5⟩
                  have HV := Lib.hid hv
                  have HB5 := Lib.hid (btr HB2.out (btr HB3.out hb5))
                  clear hv hb5
                  go_wp2
                  go_ret2
                  obtain ⟨q, q1, q2, q3⟩ := rat_exists _ N D (Nat.pos_of_ne_zero HDz.out) HOk.out
                  have HPk := HGo.out HBN.out HDz.out HOk.out
                  refine .inl ⟨v, q, rfl, parts_txt _ HPk q ?_ (by rw [HN.out]; exact q2.symm) (by rw [HD.out]; exact q3.symm), HV.out.toV q1 q2 q3, HB5.out⟩
                  rw [← q1, HB.out]
                  have := HBN.out
                  unfold sgn
                  first
                  | rfl
                  | (have h9 : N ≠ 0 := this (by first | rfl | trivial); simp; omega)

set_option maxHeartbeats 400000 in
theorem v_Parse_long (s : ByteArray) (w : World) (hs : 10000 < s.size) :
    Calls Tryz.prog 68 #[.string s] w fun e w' => e = .returned (.tuple #[.pointer none, .int .i64 8]) ∧ w = w' := by
  have h : (10000 : Int) < s.size := by omega
  clear hs
  go_enter Tryz.func68, Tryz.ntmps68
  go_wp2
  go_ret2
  exact ⟨rfl, rfl⟩
end Go.Proofs.YtmejbkfamapnkaaGreatDoor
end
