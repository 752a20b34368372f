/- ExactComputes: whatever the two strings, sums, differences, products, quotients and the comparison of the numbers that they are are the document's own: the law returns true. Its row lists package-level variables of Go's library, tied to the program's text by the card. -/
import Derived.Test.YthcpcaoapkmchaaGreatDoorZFloor
import Derived.Test.YthcpcaoapkmchaaGreatDoorZRatV
import Derived.Test.YthcpcaoapkmchaaGreatDoorZM9
import Derived.Test.YthcpcaoapkmchaaGreatDoorZNum9
import Derived.Test.YthcpcaoapkmchaaGreatDoorZRefC9
import Derived.Test.YthcpcaoapkmchaaGreatDoorZWk
import Derived.Test.YthcpcaoapkmchaaGreatDoorZSeeG
import Derived.Test.YthcpcaoapkmchaaGreatDoorZAdd9
import Derived.Test.YthcpcaoapkmchaaGreatDoorTie
import Derived.Test.YthcpcaoapkmchaaGreatDoorCards
import Derived.Test.YthcpcaoapkmchaaGreatDoorZRow
import Derived.Test.YthcpcaoapkmchaaGreatDoorZRing
import Derived.SevenTiedAt

/- How many binary digits a number of any size has: what the calls return. -/
section
namespace Go.Proofs.YthcpcaoapkmchaaGreatDoor
open Go.RowKit Go.Deep

theorem below_drewN' {B : Nat} {a w : World} (h : Below B a w) (n : Nat) : Below B a (w.drewN n) := ⟨h.os, h.tape, h.output, h.size, h.block⟩
theorem halves_top (x n : Nat) (hx : x < W64 ^ (n + 1)) (h0 : dig x n ≠ 0) : halves x = 64 * n + halves (dig x n) := by
  have hW : W64 ^ n = 2 ^ (64 * n) := by rw [Nat.pow_mul]; rfl
  have ht : dig x n = x / W64 ^ n := by
    unfold dig
    rw [Nat.mod_eq_of_lt]
    rw [Nat.div_lt_iff_lt_mul (W64_pow_pos n), Nat.mul_comm, ← Nat.pow_succ]
    exact hx
  have h1 : ∀ j, x < 2 ^ (64 * n + j) ↔ dig x n < 2 ^ j := fun j => by
    rw [ht, Nat.div_lt_iff_lt_mul (W64_pow_pos n), hW, Nat.pow_add, Nat.mul_comm]
  have h2 : halves x ≤ 64 * n + halves (dig x n) := by
    rw [halves_le, h1, ← halves_le]
    exact Nat.le_refl _
  have h3 : 0 < halves (dig x n) := by rw [halves_step _ h0]; omega
  have h4 : ¬ halves x ≤ 64 * n + (halves (dig x n) - 1) := by
    rw [halves_le, h1, ← halves_le]; omega
  omega

set_option maxHeartbeats 1000000 in
theorem n_length (w : World) (v : Value) (x : Nat) (h : NatAt w v x) (hn : nw x ≤ 100000000) :
    Calls Tryz.prog 76 #[v] w fun e w' => e = .returned (.int .i64 (halves x : Int)) ∧ ∃ n, w' = w.drewN n := by
  obtain ⟨A, c, rfl, h1, h2, h3⟩ := h
  by_cases h0 : x = 0
  · have HL : Hid ((halves x : Int) = 0) := by show _ = _; rw [h0, halves_zero]; rfl
    rw [show nw x = 0 by rw [h0, nw_zero]]
    clear h0 h3 h1 hn
    go_enter Tryz.func76, Tryz.ntmps76
    go_wp2
    go_ret
    exact ⟨by rw [HL.out]; rfl, 0, rfl⟩
  · have hp : 0 < nw x := (nw_pos x).2 (by omega)
    have hd := dig_top x (by omega)
    have hlt := dig_lt x (nw x - 1)
    have hx := lt_nw x
    obtain ⟨k, hk⟩ : ∃ k, nw x = k + 1 := ⟨nw x - 1, by omega⟩
    rw [hk] at hx hd h1 h3 hlt ⊢
    simp only [Nat.add_sub_cancel] at hd hlt
    have HT := Lib.hid (halves_top x k hx hd)
    have hle : halves (dig x k) ≤ 64 := by rw [halves_le]; unfold W64 at hlt; omega
    obtain ⟨b, o, rfl, hc⟩ := h3.at_ (k := k) (by omega)
    have HLn := Lib.hid (fun W => Tryz.bits_Len64 (dig x k) W (by omega) (by unfold W64 at hlt; omega))
    have HLe : Hid ((Lib.bitLen (dig x k : Int).toNat : Int) = (halves (dig x k) : Int)) := by
      show _ = _
      rw [Int.toNat_natCast, halves_bitLen _ hlt]
    generalize dig x k = u at *
    generalize Lib.bitLen (u : Int).toNat = bl at *
    generalize halves u = hu at *
    have hbl : (bl : Int) = (hu : Int) := HLe.out
    have hk9 : k < 100000000 := by omega
    clear h3 hx hd hlt h1 h2
    go_enter Tryz.func76, Tryz.ntmps76
    go_wp2_with fail
    refine (HLn.out w).mono ?_
    rintro e w' ⟨rfl, rfl⟩
    clear HLn
    go_wp2
    go_ret
    exact ⟨ret_i (by rw [HT.out]; push_cast; omega), 0, rfl⟩

set_option maxHeartbeats 1000000 in
theorem c_BitsG (w : World) (v : Value) (neg : Bool) (n d : Nat) (h : RatAt w v neg n d) (hn1 : nw n ≤ 100000000) (hd1 : nw d ≤ 100000000) :
    Calls Tryz.prog 28 #[v] w fun e w' => e = .returned (.tuple #[.int .i64 (halves n : Int), .int .i64 (halves d : Int)]) ∧ Below w.heap.size w w' := by
  have HV := Lib.hid (c_valid w v neg n d h)
  obtain ⟨b, nv, dv, rfl, hlt, _, h1, h2, h3, hn, hd⟩ := h
  have HN := Lib.hid (fun k => n_length (w.drewN k) nv n (hn.drewN k) hn1)
  have HD := Lib.hid (fun k => n_length (w.drewN k) dv d (hd.drewN k) hd1)
  clear hn hd
  go_enter Tryz.func28, Tryz.ntmps28
  go_wp2_with fail
  refine HV.out.mono ?_
  rintro e w' ⟨rfl, rfl⟩
  go_wp2_with fail
  go_quiet ((first | (go_at_call_of 76 nv; exact (HN.out _).mono (fun e w9 h9 => ⟨h9.1, by obtain ⟨n9, h8⟩ := h9.2; exact ⟨_, h8.trans (World.drewN_drewN _ _ _)⟩⟩)) | (go_at_call_of 76 dv; exact (HD.out _).mono (fun e w9 h9 => ⟨h9.1, by obtain ⟨n9, h8⟩ := h9.2; exact ⟨_, h8.trans (World.drewN_drewN _ _ _)⟩⟩))))
  go_wp2
  go_ret2
  exact ⟨rfl, below_drewN' (Below.refl _ _) _⟩
theorem c_BitsQ (w : World) (x : Value) (q : Rat) (hx : RatV w x q) (k : RatW q 90000) :
    ∀ W, Below w.heap.size w W → Calls Tryz.prog 28 #[x] W fun e w' => e = .returned (.tuple #[.int .i64 (halves q.num.natAbs : Int), .int .i64 (halves q.den : Int)]) ∧ Below W.heap.size W w' :=
  fun W hW => c_BitsG W x _ _ _ (hx.below hW) (Nat.le_trans k.1 (by omega)) (Nat.le_trans k.2 (by omega))
end Go.Proofs.YthcpcaoapkmchaaGreatDoor
end

/- ExactParses: the walk of the law. -/
section
namespace Go.Proofs.YthcpcaoapkmchaaGreatDoor
open Go.RowKit Go.Deep

theorem nw_dec (l : List UInt8) (hd : ∀ b ∈ l, b.toNat ≤ 57) : nw (decN l) ≤ l.length := by
  have h1 := decN_lt _ l rfl hd
  have h2 : 10 ^ l.length ≤ 10 ^ (19 * l.length) := Nat.pow_le_pow_right (by decide) (by omega)
  exact (nw_le (decN l) l.length).2 (Nat.lt_of_lt_of_le h1 (Nat.le_trans h2 (ten_pow l.length)))
/-- A number with a short string has few words. -/
theorem txt_words (q : Rat) (h : (txt q).length ≤ 10000) : RatW q 10000 ∧ RefW q 1112 := by
  obtain ⟨⟨_, d1, d2, _⟩, _, e1, e2⟩ := txt_parts q
  obtain ⟨l1, l2⟩ := parts_len (txt q) 10000 h (by decide)
  refine ⟨⟨?_, ?_⟩, ?_, ?_⟩
  · rw [← e1]; exact Nat.le_trans (nw_dec _ fun b hb => (d1.2.2 b hb).2) l1
  · rw [← e2]; exact Nat.le_trans (nw_dec _ fun b hb => (d2.2.2 b hb).2) l2
  · rw [← e1]; exact nw9_dec _ d1 l1
  · rw [← e2]; exact nw9_dec _ d2 l2

set_option maxHeartbeats 1000000 in
theorem r_Parse_long (s : ByteArray) (w : World) (hs : 10000 < s.size) :
    Calls Tryz.prog 8 #[.string s] w fun e w' => e = .returned (.tuple #[.agg #[.bool false, .slice none 0 0, .slice none 0 0], .int .i64 8]) ∧ Below w.heap.size w w' := by
  obtain ⟨W0, hW0, hB0, hz0, KR⟩ := zero_box w
  have HB0 := Lib.hid hB0
  have i1 : ((10000 : Int) < (s.size : Int)) := by omega
  have hcell := KR.out W0 (Below.refl _ _)
  clear hB0 hs
  go_enter Tryz.func8, Tryz.ntmps8
  go_wp2_with (refine wpList_store_row 29 _ _ rfl rfl rfl w.heap.size 29 rfl [.bool false, .slice none 0 0, .slice none 0 0] rfl _ hcell rfl info_ref (ref_one _ _ _ _ _ _ _) ?_; intro wz hhz hgz hzz; have HGz := Lib.hid hgz; have HZz := Lib.hid hzz; clear hzz hgz hcell)
  exact bodyPost_ret (v := .tuple #[.agg #[.bool false, .slice none 0 0, .slice none 0 0], .int .i64 8]) (results_cell_tmp Tryz.results8 _ _ w.heap.size 29 _ (0, 0) _ rfl hhz Tryz.underlying29 rfl (by rw [info_ref]; rfl)) rfl
    ⟨rfl, HB0.out.grown HGz.out HB0.out.size (fun j hj => by injection hj with hj; omega)⟩
/-- The same string, for the program and for the reference. -/
theorem both_parse (s : ByteArray) (m : Int) (hs : s.size ≤ 10000) :
    (∃ q : Rat, RatW q 90000 ∧ RefW q 1112 ∧
      (∀ w, w.cell? ⟨0, 0, none⟩ = some (.int .i64 m) → Calls Tryz.prog 7 #[.string s] w fun e w' => ∃ b, e = .returned (.tuple #[.pointer (some ⟨b, 0, none⟩), .int .i64 0]) ∧ RatV w' (.pointer (some ⟨b, 0, none⟩)) q ∧ Below w.heap.size w w') ∧
      (∀ w, Calls Tryz.prog 8 #[.string s] w fun e w' => ∃ b A n c A' n' c', e = .returned (.tuple #[.agg #[.bool b, .slice A n c, .slice A' n' c'], .int .i64 0]) ∧ RefV w' (.agg #[.bool b, .slice A n c, .slice A' n' c']) q ∧ Below w.heap.size w w')) ∨
    ((∀ w, w.cell? ⟨0, 0, none⟩ = some (.int .i64 m) → Calls Tryz.prog 7 #[.string s] w fun e w' => e = .returned (.tuple #[.pointer none, .int .i64 7]) ∧ Below w.heap.size w w') ∧
      (∀ w, Calls Tryz.prog 8 #[.string s] w fun e w' => e = .returned (.tuple #[.agg #[.bool false, .slice none 0 0, .slice none 0 0], .int .i64 7]) ∧ Below w.heap.size w w')) := by
  by_cases h : ∃ q, s.data.toList = txt q
  · obtain ⟨q, hq⟩ := h
    have hl : (txt q).length ≤ 10000 := by rw [← hq]; simpa using hs
    obtain ⟨k, k9⟩ := txt_words q hl
    refine .inl ⟨q, k.mono (by decide), k9, fun w hm => ?_, fun w => ?_⟩
    · refine (v_Parse s m w hs hm).mono ?_
      rintro e w' (⟨u, q', rfl, h1, h2, h3⟩ | ⟨_, h1, _⟩)
      · obtain rfl := txt_inj (hq.symm.trans h1)
        obtain ⟨b, nv, dv, rfl, h4⟩ := h2
        exact ⟨b, rfl, ⟨b, nv, dv, rfl, h4⟩, h3⟩
      · exact absurd hq (h1 q)
    · refine (r_Parse s w hs).mono ?_
      rintro e w' ⟨⟨r, q', rfl, h1, h2⟩ | ⟨h1, _⟩, hb⟩
      · obtain rfl := txt_inj (hq.symm.trans h1)
        obtain ⟨u, v, rfl, hu, hv⟩ := h2
        obtain ⟨A, c, rfl⟩ := hu.sl
        obtain ⟨A', c', rfl⟩ := hv.sl
        exact ⟨_, A, _, c, A', _, c', rfl, ⟨_, _, rfl, hu, hv⟩, hb⟩
      · exact absurd hq (h1 q)
  · have hn : ∀ q, s.data.toList ≠ txt q := fun q e => h ⟨q, e⟩
    refine .inr ⟨fun w hm => ?_, fun w => ?_⟩
    · refine (v_Parse s m w hs hm).mono ?_
      rintro e w' (⟨u, q', rfl, h1, h2, h3⟩ | ⟨rfl, h1, h2⟩)
      · exact absurd h1 (hn _)
      · exact ⟨rfl, h2⟩
    · refine (r_Parse s w hs).mono ?_
      rintro e w' ⟨⟨r, q', rfl, h1, h2⟩ | ⟨_, rfl⟩, hb⟩
      · exact absurd h1 (hn _)
      · exact ⟨rfl, hb⟩

set_option maxRecDepth 100000 in
set_option maxHeartbeats 4000000 in
theorem l_parses (w : World) (s : ByteArray) (m : Int) (htab : Tab w) (hm : w.cell? ⟨0, 0, none⟩ = some (.int .i64 m)) :
    Calls Tryz.prog 3 #[.string s] w fun e w' => e = .returned (.bool true) ∧ Below w.heap.size w w' := by
  have h0 : 0 < w.heap.size := by
    by_cases h : 0 < w.heap.size
    · exact h
    · exfalso
      have : w.heap[0]? = none := Array.getElem?_eq_none (by omega)
      simp [World.cell?, this] at hm
  have HM : Hid (∀ W, Below w.heap.size w W → W.cell? ⟨0, 0, none⟩ = some (.int .i64 m)) := fun W hw => (hw.cell (p := ⟨0, 0, none⟩) h0).trans hm
  have HT : Hid (∀ W, Below w.heap.size w W → Tab W) := fun W hw => htab.below hw
  have HWk : Hid (∀ W, Below w.heap.size w W → Calls Tryz.prog 6 #[] W fun e w' => e = .returned (.bool true) ∧ Below W.heap.size W w') :=
    fun W hW => c_works W m (HM.out W hW)
  clear hm h0 htab
  have R : Below w.heap.size w w := Below.refl _ _
  by_cases h4 : 400 < s.size
  · by_cases h5 : s.size ≤ 10000
    · have i1 : (400 : Int) < (s.size : Int) := by omega
      have i2 : (s.size : Int) ≤ 10000 := by omega
      clear h4 h5
      go_enter Tryz.func3, Tryz.ntmps3
      go_wp2_with fail
      refine (HWk.out _ R).mono ?_
      rintro e w1 ⟨rfl, hb1⟩
      go_wp2
      go_ret
      exact ⟨rfl, hb1⟩
    · have HX := Lib.hid (v_Parse_long s w (by omega))
      have HR := Lib.hid (r_Parse_long s w (by omega))
      have i1 : (400 : Int) < (s.size : Int) := by omega
      have i2 : ¬ (s.size : Int) ≤ 10000 := by omega
      clear h4 h5
      go_enter Tryz.func3, Tryz.ntmps3
      go_wp2_with fail
      refine HX.out.mono ?_
      rintro e w1 ⟨rfl, rfl⟩
      go_wp2_with fail
      refine HR.out.mono ?_
      rintro e w2 ⟨rfl, hb2⟩
      have B3 : Hid (Below w.heap.size w (w2.alloc (.cells #[.bool false, .slice none 0 0, .slice none 0 0] 29))) := Below.alloc hb2 hb2.size _
      clear hb2
      go_wp2_with fail
      refine (HWk.out _ B3.out).mono ?_
      rintro e w4 ⟨rfl, hb4⟩
      have B4 := Lib.hid (btr B3.out hb4)
      clear hb4
      go_wp2
      go_ret
      exact ⟨rfl, B4.out⟩
  · have i1 : ¬ (400 : Int) < (s.size : Int) := by omega
    rcases both_parse s m (by omega) with ⟨q, k, k9, hx, hr⟩ | ⟨hx, hr⟩
    · have HX := Lib.hid hx
      have HR := Lib.hid hr
      have HK := Lib.hid (And.intro k k9)
      clear hx hr k k9 h4
      go_enter Tryz.func3, Tryz.ntmps3
      go_wp2_with fail
      refine (HX.out w (HM.out _ R)).mono ?_
      rintro e w1 ⟨bx, rfl, hu, hb1⟩
      have HU := Lib.hid hu
      have HB1 := Lib.hid hb1
      clear hu hb1
      go_wp2_with fail
      refine (HR.out w1).mono ?_
      rintro e w2 ⟨b, A, n, c, A', n', c', rfl, hv, hb2⟩
      obtain ⟨w3, hw3, hb3, hz3, K3⟩ := ref_box w2 b (.slice A n c) (.slice A' n' c')
      have HB3 := Lib.hid (btr HB1.out (btr hb2 hb3))
      have HU3 := Lib.hid ((HU.out.below hb2).below hb3)
      have HV3 := Lib.hid (hv.below hb3)
      obtain ⟨x0, x1, x2⟩ := K3.out w3 (Below.refl _ _)
      clear hv hb2 hb3
      go_wp2_with fail
      refine (l_same w3 _ _ q HU3.out HV3.out HK.out.1 ⟨Nat.le_trans HK.out.2.1 (by decide), Nat.le_trans HK.out.2.2 (by decide)⟩ (HT.out _ HB3.out) (c_BitsQ w3 _ q HU3.out HK.out.1)).mono ?_
      rintro e w4 ⟨rfl, hb4⟩
      have HB4 := Lib.hid (btr HB3.out hb4)
      clear hb4 x0 x1 x2
      go_wp2_with fail
      refine (HWk.out _ HB4.out).mono ?_
      rintro e w5 ⟨rfl, hb5⟩
      have HB5 := Lib.hid (btr HB4.out hb5)
      clear hb5
      go_wp2
      go_ret
      exact ⟨rfl, HB5.out⟩
    · have HX := Lib.hid hx
      have HR := Lib.hid hr
      clear hx hr h4
      go_enter Tryz.func3, Tryz.ntmps3
      go_wp2_with fail
      refine (HX.out w (HM.out _ R)).mono ?_
      rintro e w1 ⟨rfl, hb1⟩
      go_wp2_with fail
      refine (HR.out w1).mono ?_
      rintro e w2 ⟨rfl, hb2⟩
      have B3 : Hid (Below w.heap.size w (w2.alloc (.cells #[.bool false, .slice none 0 0, .slice none 0 0] 29))) := btr hb1 (Below.alloc hb2 hb2.size _)
      clear hb1 hb2
      go_wp2_with fail
      refine (HWk.out _ B3.out).mono ?_
      rintro e w4 ⟨rfl, hb4⟩
      have B4 := Lib.hid (btr B3.out hb4)
      clear hb4
      go_wp2
      go_ret
      exact ⟨rfl, B4.out⟩
end Go.Proofs.YthcpcaoapkmchaaGreatDoor
end

/- ExactComputes: the walk of the law. -/
section
namespace Go.Proofs.YthcpcaoapkmchaaGreatDoor
open Go.RowKit Go.Deep

theorem nw9_nw (x n : Nat) (h : nw x ≤ n) : nw9 x ≤ 3 * n := by
  rw [nw_le9]
  have h1 := (nw_le x n).1 h
  refine Nat.lt_of_lt_of_le h1 ?_
  rw [Nat.pow_mul]
  exact Nat.pow_le_pow_left (by decide) n
theorem refW_of {q : Rat} {n : Nat} (h : RatW q n) : RefW q (3 * n) := ⟨nw9_nw _ _ h.1, nw9_nw _ _ h.2⟩
theorem ratW_addC {p q : Rat} {a b : Nat} (hp : RatW p a) (hq : RatW q b) : RatW (p + q) (2 * (a + b) + 1) := ratW_add hp hq
/-- A number with a string of at most 200 bytes. -/
theorem txt_small (q : Rat) (h : (txt q).length ≤ 200) : RatW q 200 := by
  obtain ⟨⟨_, d1, d2, _⟩, _, e1, e2⟩ := txt_parts q
  obtain ⟨l1, l2⟩ := parts_len (txt q) 200 h (by decide)
  exact ⟨by rw [← e1]; exact Nat.le_trans (nw_dec _ fun b hb => (d1.2.2 b hb).2) l1, by rw [← e2]; exact Nat.le_trans (nw_dec _ fun b hb => (d2.2.2 b hb).2) l2⟩
theorem both_small (s : ByteArray) (m : Int) (hs : s.size ≤ 200) :
    (∃ q : Rat, RatW q 200 ∧
      (∀ w, w.cell? ⟨0, 0, none⟩ = some (.int .i64 m) → Calls Tryz.prog 7 #[.string s] w fun e w' => ∃ b, e = .returned (.tuple #[.pointer (some ⟨b, 0, none⟩), .int .i64 0]) ∧ RatV w' (.pointer (some ⟨b, 0, none⟩)) q ∧ Below w.heap.size w w') ∧
      (∀ w, Calls Tryz.prog 8 #[.string s] w fun e w' => ∃ b A n c A' n' c', e = .returned (.tuple #[.agg #[.bool b, .slice A n c, .slice A' n' c'], .int .i64 0]) ∧ RefV w' (.agg #[.bool b, .slice A n c, .slice A' n' c']) q ∧ Below w.heap.size w w')) ∨
    (∀ w, Calls Tryz.prog 8 #[.string s] w fun e w' => e = .returned (.tuple #[.agg #[.bool false, .slice none 0 0, .slice none 0 0], .int .i64 7]) ∧ Below w.heap.size w w') := by
  by_cases h : ∃ q, s.data.toList = txt q
  · obtain ⟨q, hq⟩ := h
    have hl : (txt q).length ≤ 200 := by rw [← hq]; simpa using hs
    refine .inl ⟨q, txt_small q hl, fun w hm => ?_, fun w => ?_⟩
    · refine (v_Parse s m w (by omega) hm).mono ?_
      rintro e w' (⟨u, q', rfl, h1, h2, h3⟩ | ⟨_, h1, _⟩)
      · obtain rfl := txt_inj (hq.symm.trans h1)
        obtain ⟨b, nv, dv, rfl, h4⟩ := h2
        exact ⟨b, rfl, ⟨b, nv, dv, rfl, h4⟩, h3⟩
      · exact absurd hq (h1 q)
    · refine (r_Parse s w (by omega)).mono ?_
      rintro e w' ⟨⟨r, q', rfl, h1, h2⟩ | ⟨h1, _⟩, hb⟩
      · obtain rfl := txt_inj (hq.symm.trans h1)
        obtain ⟨u, v, rfl, hu, hv⟩ := h2
        obtain ⟨A, c, rfl⟩ := hu.sl
        obtain ⟨A', c', rfl⟩ := hv.sl
        exact ⟨_, A, _, c, A', _, c', rfl, ⟨_, _, rfl, hu, hv⟩, hb⟩
      · exact absurd hq (h1 q)
  · have hn : ∀ q, s.data.toList ≠ txt q := fun q e => h ⟨q, e⟩
    refine .inr fun w => ?_
    refine (r_Parse s w (by omega)).mono ?_
    rintro e w' ⟨⟨r, q', rfl, h1, h2⟩ | ⟨_, rfl⟩, hb⟩
    · exact absurd h1 (hn _)
    · exact ⟨rfl, hb⟩
set_option maxHeartbeats 1000000 in
theorem r_Quo_zero (w : World) (x y : Value) (p : Rat) (hx : RefV w x p) (hy : RefV w y 0) :
    Calls Tryz.prog 11 #[x, y] w fun e w' => e = .returned (.tuple #[.agg #[.bool false, .slice none 0 0, .slice none 0 0], .int .i64 2]) ∧ Below w.heap.size w w' := by
  obtain ⟨xu, xv, rfl, hxu, hxv⟩ := hx
  obtain ⟨yu, yv, rfl, hyu, hyv⟩ := hy
  obtain ⟨A1, c1, rfl⟩ := hxu.sl
  obtain ⟨A2, c2, rfl⟩ := hxv.sl
  obtain ⟨A3, c3, rfl⟩ := hyu.sl
  obtain ⟨A4, c4, rfl⟩ := hyv.sl
  rw [show nw9 (0 : Rat).num.natAbs = 0 from nw_zero9]
  generalize decide (p.num < 0) = s at *
  generalize decide ((0 : Rat).num < 0) = t at *
  clear hxu hxv hyu hyv
  generalize nw9 p.num.natAbs = a at *
  generalize nw9 p.den = c at *
  generalize nw9 (0 : Rat).den = d at *
  obtain ⟨W0, hW0, hB0, hz0, KX⟩ := ref_box w s (.slice A1 a c1) (.slice A2 c c2)
  obtain ⟨W1, hW1, hB1, hz1, KY⟩ := ref_box W0 t (.slice A3 0 c3) (.slice A4 d c4)
  obtain ⟨W2, hW2, hB2, hz2, KR⟩ := zero_box W1
  have HB := Lib.hid (btr hB0 (btr hB1 hB2))
  have hz12 : W1.heap.size = w.heap.size + 1 + 1 := by rw [hz1, hz0]
  obtain ⟨y0, y1, y2⟩ := KY.out W2 hB2
  rw [hz0] at y0 y1 y2
  have hcell : W2.heap[w.heap.size + 1 + 1]? = some (.cells #[.bool false, .slice none 0 0, .slice none 0 0] 29 (0, 0)) := by rw [← hz12]; exact KR.out W2 (Below.refl _ _)
  clear hB0 hB1 hB2 hz1 hz2
  go_enter Tryz.func11, Tryz.ntmps11
  go_wp2_with (refine wpList_store_row 29 _ _ rfl rfl rfl (w.heap.size + 1 + 1) 29 rfl [.bool false, .slice none 0 0, .slice none 0 0] rfl _ hcell rfl info_ref (ref_one _ _ _ _ _ _ _) ?_; intro wz hhz hgz hzz; have HGz := Lib.hid hgz; have HZz := Lib.hid hzz; clear hzz hgz hcell)
  exact bodyPost_ret (v := .tuple #[.agg #[.bool false, .slice none 0 0, .slice none 0 0], .int .i64 2]) (results_cell_tmp Tryz.results11 _ _ (w.heap.size + 1 + 1) 29 _ (0, 0) _ rfl hhz Tryz.underlying29 rfl (by rw [info_ref]; rfl)) rfl
    ⟨rfl, HB.out.grown HGz.out HB.out.size (fun j hj => by injection hj with hj; omega)⟩
/-- The walk. -/
theorem cmp_two (p q : Rat) : cmpQ p q = Lib.compareInt (p.num * q.den) (q.num * p.den) := by
  rw [cmpQ_of]
  unfold Lib.compareInt
  split
  · rfl
  · split
    · rename_i h1 h2
      rw [if_neg (by omega)]
    · rename_i h1 h2
      rw [if_pos (by omega)]
set_option maxRecDepth 100000 in
set_option maxHeartbeats 32000000 in
theorem l_computes (w : World) (s t : ByteArray) (m : Int) (htab : Tab w) (hm : w.cell? ⟨0, 0, none⟩ = some (.int .i64 m)) :
    Calls Tryz.prog 4 #[.string s, .string t] w fun e w' => e = .returned (.bool true) ∧ Below w.heap.size w w' := by
  have h0 : 0 < w.heap.size := by
    by_cases h : 0 < w.heap.size
    · exact h
    · exfalso
      have : w.heap[0]? = none := Array.getElem?_eq_none (by omega)
      simp [World.cell?, this] at hm
  have HMx : Hid (∀ W, Below w.heap.size w W → W.cell? ⟨0, 0, none⟩ = some (.int .i64 m)) := fun W hw => (hw.cell (p := ⟨0, 0, none⟩) h0).trans hm
  have HT : Hid (∀ W, Below w.heap.size w W → Tab W) := fun W hw => htab.below hw
  have HWk : Hid (∀ W, Below w.heap.size w W → Calls Tryz.prog 6 #[] W fun e w' => e = .returned (.bool true) ∧ Below W.heap.size W w') :=
    fun W hW => c_works W m (HMx.out W hW)
  clear hm h0 htab
  have R : Below w.heap.size w w := Below.refl _ _
  by_cases hst : s.size ≤ 200 ∧ t.size ≤ 200
  · obtain ⟨hs, ht⟩ := hst
    have i1 : ¬ (200 : Int) < (s.size : Int) := by omega
    have i2 : ¬ (200 : Int) < (t.size : Int) := by omega
    rcases both_small s m hs with ⟨p, kp, hxp, hrp⟩ | hrp
    · have HXp := Lib.hid hxp
      have HRp := Lib.hid hrp
      clear hxp hrp hs
      rcases both_small t m ht with ⟨q, kq, hxq, hrq⟩ | hrq
      · have HXq := Lib.hid hxq
        have HRq := Lib.hid hrq
        clear hxq hrq ht
        go_enter Tryz.func4, Tryz.ntmps4
        go_wp2_with fail
        refine (HRp.out w).mono ?_
        rintro e w1 ⟨sa, A1, n1, c1, A2, n2, c2, rfl, ha, hb1⟩
        obtain ⟨w2, hw2, hb2, hz2, KA⟩ := ref_box w1 sa (.slice A1 n1 c1) (.slice A2 n2 c2)
        have B2 := Lib.hid (btr hb1 hb2)
        have HA2 := Lib.hid (ha.below hb2)
        clear ha hb1 hb2
        go_wp2_with fail
        refine (HRq.out w2).mono ?_
        rintro e w3 ⟨sb, A3, n3, c3, A4, n4, c4, rfl, hb', hb3⟩
        obtain ⟨w4, hw4, hb4, hz4, KB⟩ := ref_box w3 sb (.slice A3 n3 c3) (.slice A4 n4 c4)
        have B24 := Lib.hid (btr hb3 hb4)
        have B4 := Lib.hid (btr B2.out B24.out)
        have HA4 := Lib.hid (HA2.out.below B24.out)
        have HB4 := Lib.hid (hb'.below hb4)
        clear hb' hb3 hb4
        go_wp2_with fail
        refine (HXp.out w4 (HMx.out _ B4.out)).mono ?_
        rintro e w5 ⟨bx, rfl, hx, hb5⟩
        have B45 := Lib.hid hb5
        have HX5 := Lib.hid hx
        clear hx hb5
        go_wp2_with fail
        refine (HXq.out w5 (HMx.out _ (btr B4.out B45.out))).mono ?_
        rintro e w6 ⟨by', rfl, hy, hb6⟩
        have B46 := Lib.hid (btr B45.out hb6)
        have B6 := Lib.hid (btr B4.out B46.out)
        have HX6 := Lib.hid (HX5.out.below hb6)
        have HY6 := Lib.hid hy
        have HA6 := Lib.hid (HA4.out.below B46.out)
        have HB6 := Lib.hid (HB4.out.below B46.out)
        clear hy hb6
        obtain ⟨ba, hba⟩ : ∃ ba, ba = w1.heap.size := ⟨_, rfl⟩
        obtain ⟨bb, hbb⟩ : ∃ bb, bb = w3.heap.size := ⟨_, rfl⟩
        have HC6 : Hid (∀ W, Below w6.heap.size w6 W → W.cell? ⟨ba, 0, none⟩ = some (.bool sa) ∧ W.cell? ⟨ba, 1, none⟩ = some (.slice A1 n1 c1) ∧ W.cell? ⟨ba, 2, none⟩ = some (.slice A2 n2 c2) ∧ W.cell? ⟨bb, 0, none⟩ = some (.bool sb) ∧ W.cell? ⟨bb, 1, none⟩ = some (.slice A3 n3 c3) ∧ W.cell? ⟨bb, 2, none⟩ = some (.slice A4 n4 c4)) := fun W hW => by
          obtain ⟨x0, x1, x2⟩ := KA.out W (btr B24.out (btr B46.out hW))
          obtain ⟨y0, y1, y2⟩ := KB.out W (btr B46.out hW)
          rw [hba, hbb]
          exact ⟨x0, x1, x2, y0, y1, y2⟩
        rw [← hba, ← hbb]
        clear hba hbb
        have HKp := Lib.hid (And.intro kp kq)
        have HSm6 : Hid (∀ W x r Q, Below w6.heap.size w6 W → RatV W x Q → RefV W r Q → RatW Q 1000 → Calls Tryz.prog 9 #[x, r] W fun e w' => e = .returned (.bool true) ∧ Below W.heap.size W w') := fun W x r Q hW hx hr k =>
          l_same W x r Q hx hr (k.mono (by decide)) ⟨Nat.le_trans (refW_of k).1 (by decide), Nat.le_trans (refW_of k).2 (by decide)⟩ (HT.out W (btr B6.out hW)) (c_BitsQ W x Q hx (k.mono (by decide)))
        clear kp kq
        have HX : Hid (∀ W, Below w6.heap.size w6 W → RatV W (.pointer (some ⟨bx, 0, none⟩)) p) := fun W hW => HX6.out.below hW
        have HY : Hid (∀ W, Below w6.heap.size w6 W → RatV W (.pointer (some ⟨by', 0, none⟩)) q) := fun W hW => HY6.out.below hW
        have HA : Hid (∀ W, Below w6.heap.size w6 W → RefV W (.agg #[.bool sa, .slice A1 n1 c1, .slice A2 n2 c2]) p) := fun W hW => HA6.out.below hW
        have HB : Hid (∀ W, Below w6.heap.size w6 W → RefV W (.agg #[.bool sb, .slice A3 n3 c3, .slice A4 n4 c4]) q) := fun W hW => HB6.out.below hW
        have HK : Hid ((RatW p 1000 ∧ RatW q 1000) ∧ RatW (p + q) 1000 ∧ RatW (p - q) 1000 ∧ RatW (p * q) 1000) :=
          ⟨⟨HKp.out.1.mono (by decide), HKp.out.2.mono (by decide)⟩, (ratW_add HKp.out.1 HKp.out.2).mono (by decide), (ratW_sub HKp.out.1 HKp.out.2).mono (by decide), (ratW_mul HKp.out.1 HKp.out.2).mono (by decide)⟩
        have kx : RatW p 100000 := HKp.out.1.mono (by decide)
        have ky : RatW q 100000 := HKp.out.2.mono (by decide)
        have kx9 : RefW p 10000000 := ⟨Nat.le_trans (refW_of kx).1 (by decide), Nat.le_trans (refW_of kx).2 (by decide)⟩
        have ky9 : RefW q 10000000 := ⟨Nat.le_trans (refW_of ky).1 (by decide), Nat.le_trans (refW_of ky).2 (by decide)⟩
        have HAdd := Lib.hid (fun W (hW : Below w6.heap.size w6 W) => v_Add W _ _ p q (HX.out W hW) (HY.out W hW) kx ky)
        have HSub := Lib.hid (fun W (hW : Below w6.heap.size w6 W) => v_Sub W _ _ p q (HX.out W hW) (HY.out W hW) kx ky)
        have HMul := Lib.hid (fun W (hW : Below w6.heap.size w6 W) => v_Mul W _ _ p q (HX.out W hW) (HY.out W hW) kx ky)
        have HRAdd := Lib.hid (fun W (hW : Below w6.heap.size w6 W) => r_Add W _ _ p q (HA.out W hW) (HB.out W hW) kx9 ky9)
        have HRSub : Hid (∀ W, Below w6.heap.size w6 W → Calls Tryz.prog 15 #[.agg #[.bool sa, .slice A1 n1 c1, .slice A2 n2 c2], .agg #[.bool sb, .slice A3 n3 c3, .slice A4 n4 c4]] W fun e w' => ∃ r, e = .returned r ∧ RefV w' r (p - q) ∧ Below W.heap.size W w') := fun W hW => by
          have h9 := r_Sub W _ _ p q (HA.out W hW) (HB.out W hW) kx9 ky9
          rw [← Rat.sub_eq_add_neg] at h9
          exact h9
        have HRMul := Lib.hid (fun W (hW : Below w6.heap.size w6 W) => r_Mul W _ _ p q (HA.out W hW) (HB.out W hW) kx9 ky9)
        have HCmp0 := Lib.hid (fun W (hW : Below w6.heap.size w6 W) => v_Cmp W _ _ p q (HX.out W hW) (HY.out W hW) kx ky)
        have HRCmp := Lib.hid (fun W (hW : Below w6.heap.size w6 W) => r_Cmp W _ _ p q (HA.out W hW) (HB.out W hW) kx9 ky9)
        have HCmp := HCmp0
        rw [cmp_two] at HCmp
        generalize Lib.compareInt (p.num * q.den) (q.num * p.den) = CC at *
        clear HCmp0
        have HQ0 : Hid (q = 0 → ∀ W, Below w6.heap.size w6 W → Calls Tryz.prog 10 #[.pointer (some ⟨bx, 0, none⟩), .pointer (some ⟨by', 0, none⟩)] W fun e w' => e = .returned (.tuple #[.pointer none, .int .i64 2]) ∧ w' = W) := fun h W hW => by
          subst h
          exact v_Quo_zero W _ _ p (HX.out W hW) (HY.out W hW)
        have HRQ0 : Hid (q = 0 → ∀ W, Below w6.heap.size w6 W → Calls Tryz.prog 11 #[.agg #[.bool sa, .slice A1 n1 c1, .slice A2 n2 c2], .agg #[.bool sb, .slice A3 n3 c3, .slice A4 n4 c4]] W fun e w' => e = .returned (.tuple #[.agg #[.bool false, .slice none 0 0, .slice none 0 0], .int .i64 2]) ∧ Below W.heap.size W w') := fun h W hW => by
          subst h
          exact r_Quo_zero W _ _ p (HA.out W hW) (HB.out W hW)
        have HQ1 := Lib.hid (fun (h : q ≠ 0) W (hW : Below w6.heap.size w6 W) => v_Quo W _ _ p q (HX.out W hW) (HY.out W hW) kx ky h)
        have HRQ1 := Lib.hid (fun (h : q ≠ 0) W (hW : Below w6.heap.size w6 W) => r_Quo W _ _ p q (HA.out W hW) (HB.out W hW) kx9 ky9 h)
        have HKd : Hid (q ≠ 0 → RatW (p / q) 1000) := fun h => (ratW_div HKp.out.1 HKp.out.2 h).mono (by decide)
        have HSm := HSm6
        clear kx ky kx9 ky9 HX6 HY6 HA6 HB6 HKp HX5 HA2 HA4 HB4
        obtain ⟨x0, x1, x2, y0, y1, y2⟩ := HC6.out w6 (Below.refl _ _)
        by_cases hq0 : q = 0
        · have Q0 := Lib.hid (HQ0.out hq0)
          have RQ0 := Lib.hid (HRQ0.out hq0)
          clear hq0 HQ0 HRQ0 HQ1 HRQ1
          go_wp2_with fail
          refine (Q0.out w6 (Below.refl _ _)).mono ?_
          rintro e w7 ⟨rfl, rfl⟩
          go_wp2_with fail
          refine (RQ0.out _ (Below.refl _ _)).mono ?_
          rintro e w8 ⟨rfl, hb8⟩
          have B9 := Lib.hid (Below.alloc hb8 hb8.size (.cells #[.bool false, .slice none 0 0, .slice none 0 0] 29))
          clear hb8 x0 x1 x2 y0 y1 y2
          go_wp2_with fail
          generalize (w8.alloc (.cells #[.bool false, .slice none 0 0, .slice none 0 0] 29)) = w9 at *
          have HM : Hid (∀ W, Below w9.heap.size w9 W → Below w7.heap.size w7 W) := fun W hW => btr B9.out hW
          have HM2 : Hid (∀ W, Below w9.heap.size w9 W → Below w.heap.size w W) := fun W hW => btr B6.out (btr B9.out hW)
          have HCl : Hid (∀ W, Below w9.heap.size w9 W → W.cell? ⟨ba, 0, none⟩ = some (.bool sa) ∧ W.cell? ⟨ba, 1, none⟩ = some (.slice A1 n1 c1) ∧ W.cell? ⟨ba, 2, none⟩ = some (.slice A2 n2 c2) ∧ W.cell? ⟨bb, 0, none⟩ = some (.bool sb) ∧ W.cell? ⟨bb, 1, none⟩ = some (.slice A3 n3 c3) ∧ W.cell? ⟨bb, 2, none⟩ = some (.slice A4 n4 c4)) := fun W hW => HC6.out W (HM.out W hW)
          have C0 : Below w9.heap.size w9 w9.drew := Below.drew (Below.refl _ _)
          go_region_held3 (fun W => W.cell? ⟨ba, 0, none⟩ = some (.bool sa) ∧ W.cell? ⟨ba, 1, none⟩ = some (.slice A1 n1 c1) ∧ W.cell? ⟨ba, 2, none⟩ = some (.slice A2 n2 c2) ∧ W.cell? ⟨bb, 0, none⟩ = some (.bool sb) ∧ W.cell? ⟨bb, 1, none⟩ = some (.slice A3 n3 c3) ∧ W.cell? ⟨bb, 2, none⟩ = some (.slice A4 n4 c4))
            (first | exact HCl.out _ C14 | exact HCl.out _ C13 | exact HCl.out _ C12 | exact HCl.out _ C11 | exact HCl.out _ C10 | exact HCl.out _ C9 | exact HCl.out _ C8 | exact HCl.out _ C7 | exact HCl.out _ C6 | exact HCl.out _ C5 | exact HCl.out _ C4 | exact HCl.out _ C3 | exact HCl.out _ C2 | exact HCl.out _ C1 | exact HCl.out _ C0 | exact HCl.out _ (Below.refl _ _))
            (first
              | (go_at_call 12; refine (HAdd.out _ (HM.out _ C0)).mono ?_; rintro e v1 ⟨u1, rfl, hu1, hd1⟩; have C1 : Below w9.heap.size w9 v1 := btr C0 hd1)
              | (go_at_call 13; refine (HRAdd.out _ (HM.out _ C1)).mono ?_; rintro e v2 ⟨r1, rfl, hr1, hd2⟩; have C2 : Below w9.heap.size w9 v2 := btr C1 hd2; have HU1 := Lib.hid (hu1.below hd2); have HV1 := Lib.hid hr1)
              | (go_at_call_of 9 u1; refine (HSm.out _ _ _ (p + q) (HM.out _ C2) HU1.out HV1.out HK.out.2.1).mono ?_; rintro e v3 ⟨rfl, hd3⟩; have C3 : Below w9.heap.size w9 v3 := btr C2 hd3)
              | (go_at_call 14; refine (HSub.out _ (HM.out _ C3)).mono ?_; rintro e v4 ⟨u2, rfl, hu2, hd4⟩; have C4 : Below w9.heap.size w9 v4 := btr C3 hd4)
              | (go_at_call 15; refine (HRSub.out _ (HM.out _ C4)).mono ?_; rintro e v5 ⟨r2, rfl, hr2, hd5⟩; have C5 : Below w9.heap.size w9 v5 := btr C4 hd5; have HU2 := Lib.hid (hu2.below hd5); have HV2 := Lib.hid hr2)
              | (go_at_call_of 9 u2; refine (HSm.out _ _ _ (p - q) (HM.out _ C5) HU2.out HV2.out HK.out.2.2.1).mono ?_; rintro e v6 ⟨rfl, hd6⟩; have C6 : Below w9.heap.size w9 v6 := btr C5 hd6)
              | (go_at_call 16; refine (HMul.out _ (HM.out _ C6)).mono ?_; rintro e v7 ⟨u3, rfl, hu3, hd7⟩; have C7 : Below w9.heap.size w9 v7 := btr C6 hd7)
              | (go_at_call 17; refine (HRMul.out _ (HM.out _ C7)).mono ?_; rintro e v8 ⟨r3, rfl, hr3, hd8⟩; have C8 : Below w9.heap.size w9 v8 := btr C7 hd8; have HU3 := Lib.hid (hu3.below hd8); have HV3 := Lib.hid hr3)
              | (go_at_call_of 9 u3; refine (HSm.out _ _ _ (p * q) (HM.out _ C8) HU3.out HV3.out HK.out.2.2.2).mono ?_; rintro e v9 ⟨rfl, hd9⟩; have C9 : Below w9.heap.size w9 v9 := btr C8 hd9)
              | (go_at_call 18; refine (HCmp.out _ (HM.out _ C9)).mono ?_; rintro e v10 ⟨rfl, hd10⟩; have C10 : Below w9.heap.size w9 v10 := btr C9 hd10)
              | (go_at_call 19; refine (HRCmp.out _ (HM.out _ C10)).mono ?_; rintro e v11 ⟨rfl, hd11⟩; have C11 : Below w9.heap.size w9 v11 := btr C10 hd11)
              | (go_at_call_of 9 (Value.pointer (some ⟨bx, 0, none⟩)); refine (HSm.out _ _ _ p (HM.out _ C11) (HX.out _ (HM.out _ C11)) (HA.out _ (HM.out _ C11)) HK.out.1.1).mono ?_; rintro e v12 ⟨rfl, hd12⟩; have C12 : Below w9.heap.size w9 v12 := btr C11 hd12)
              | (go_at_call_of 9 (Value.pointer (some ⟨by', 0, none⟩)); refine (HSm.out _ _ _ q (HM.out _ C12) (HY.out _ (HM.out _ C12)) (HB.out _ (HM.out _ C12)) HK.out.1.2).mono ?_; rintro e v13 ⟨rfl, hd13⟩; have C13 : Below w9.heap.size w9 v13 := btr C12 hd13)
              | (go_at_call 6; refine (HWk.out _ (HM2.out _ C13)).mono ?_; rintro e v14 ⟨rfl, hd14⟩; have C14 : Below w9.heap.size w9 v14 := btr C13 hd14))
          all_goals
            have hF := HM2.out _ C14
            go_wp2
            go_ret
            exact ⟨rfl, hF⟩
        · have Q1 := Lib.hid (HQ1.out hq0)
          have RQ1 := Lib.hid (HRQ1.out hq0)
          have KD := Lib.hid (HKd.out hq0)
          clear hq0 HQ0 HRQ0 HQ1 HRQ1
          go_wp2_with fail
          refine (Q1.out w6 (Below.refl _ _)).mono ?_
          rintro e w7 ⟨u, rfl, hu, hb7⟩
          have B7 := Lib.hid hb7
          have HU7 := Lib.hid hu
          clear hb7 hu x0 x1 x2 y0 y1 y2
          obtain ⟨x0, x1, x2, y0, y1, y2⟩ := HC6.out w7 B7.out
          go_wp2_with fail
          refine (RQ1.out w7 B7.out).mono ?_
          rintro e w8 ⟨r, rfl, hr, hb8⟩
          have HR8 := Lib.hid hr
          have HU8 := Lib.hid (HU7.out.below hb8)
          obtain ⟨ru, rv, rfl, hru, hrv⟩ := hr
          obtain ⟨A5, c5, rfl⟩ := hru.sl
          obtain ⟨A6, c6, rfl⟩ := hrv.sl
          have B8 := Lib.hid (btr B7.out hb8)
          clear hru hrv hb8 x0 x1 x2 y0 y1 y2
          generalize decide ((p / q).num < 0) = sr at *
          generalize nw9 (p / q).num.natAbs = n5 at *
          generalize nw9 (p / q).den = n6 at *
          obtain ⟨w10, hw10, hb10, hz10, KR⟩ := ref_box w8 sr (.slice A5 n5 c5) (.slice A6 n6 c6)
          have B10 := Lib.hid (btr B8.out hb10)
          have HR10 := Lib.hid (HR8.out.below hb10)
          have HU10 := Lib.hid (HU8.out.below hb10)
          obtain ⟨z0, z1, z2⟩ := KR.out w10 (Below.refl _ _)
          clear hb10
          go_wp2_with fail
          refine (HSm.out w10 _ _ _ B10.out HU10.out HR10.out KD.out).mono ?_
          rintro e w9 ⟨rfl, hb9⟩
          have B9 := Lib.hid (btr B10.out hb9)
          clear hb9 z0 z1 z2
          have HM : Hid (∀ W, Below w9.heap.size w9 W → Below w6.heap.size w6 W) := fun W hW => btr B9.out hW
          have HM2 : Hid (∀ W, Below w9.heap.size w9 W → Below w.heap.size w W) := fun W hW => btr B6.out (btr B9.out hW)
          have HCl : Hid (∀ W, Below w9.heap.size w9 W → W.cell? ⟨ba, 0, none⟩ = some (.bool sa) ∧ W.cell? ⟨ba, 1, none⟩ = some (.slice A1 n1 c1) ∧ W.cell? ⟨ba, 2, none⟩ = some (.slice A2 n2 c2) ∧ W.cell? ⟨bb, 0, none⟩ = some (.bool sb) ∧ W.cell? ⟨bb, 1, none⟩ = some (.slice A3 n3 c3) ∧ W.cell? ⟨bb, 2, none⟩ = some (.slice A4 n4 c4)) := fun W hW => HC6.out W (HM.out W hW)
          go_wp2_with fail
          have C0 : Below w9.heap.size w9 w9.drew := Below.drew (Below.refl _ _)
          go_region_held3 (fun W => W.cell? ⟨ba, 0, none⟩ = some (.bool sa) ∧ W.cell? ⟨ba, 1, none⟩ = some (.slice A1 n1 c1) ∧ W.cell? ⟨ba, 2, none⟩ = some (.slice A2 n2 c2) ∧ W.cell? ⟨bb, 0, none⟩ = some (.bool sb) ∧ W.cell? ⟨bb, 1, none⟩ = some (.slice A3 n3 c3) ∧ W.cell? ⟨bb, 2, none⟩ = some (.slice A4 n4 c4))
            (first | exact HCl.out _ C14 | exact HCl.out _ C13 | exact HCl.out _ C12 | exact HCl.out _ C11 | exact HCl.out _ C10 | exact HCl.out _ C9 | exact HCl.out _ C8 | exact HCl.out _ C7 | exact HCl.out _ C6 | exact HCl.out _ C5 | exact HCl.out _ C4 | exact HCl.out _ C3 | exact HCl.out _ C2 | exact HCl.out _ C1 | exact HCl.out _ C0 | exact HCl.out _ (Below.refl _ _))
            (first
              | (go_at_call 12; refine (HAdd.out _ (HM.out _ C0)).mono ?_; rintro e v1 ⟨u1, rfl, hu1, hd1⟩; have C1 : Below w9.heap.size w9 v1 := btr C0 hd1)
              | (go_at_call 13; refine (HRAdd.out _ (HM.out _ C1)).mono ?_; rintro e v2 ⟨r1, rfl, hr1, hd2⟩; have C2 : Below w9.heap.size w9 v2 := btr C1 hd2; have HU1 := Lib.hid (hu1.below hd2); have HV1 := Lib.hid hr1)
              | (go_at_call_of 9 u1; refine (HSm.out _ _ _ (p + q) (HM.out _ C2) HU1.out HV1.out HK.out.2.1).mono ?_; rintro e v3 ⟨rfl, hd3⟩; have C3 : Below w9.heap.size w9 v3 := btr C2 hd3)
              | (go_at_call 14; refine (HSub.out _ (HM.out _ C3)).mono ?_; rintro e v4 ⟨u2, rfl, hu2, hd4⟩; have C4 : Below w9.heap.size w9 v4 := btr C3 hd4)
              | (go_at_call 15; refine (HRSub.out _ (HM.out _ C4)).mono ?_; rintro e v5 ⟨r2, rfl, hr2, hd5⟩; have C5 : Below w9.heap.size w9 v5 := btr C4 hd5; have HU2 := Lib.hid (hu2.below hd5); have HV2 := Lib.hid hr2)
              | (go_at_call_of 9 u2; refine (HSm.out _ _ _ (p - q) (HM.out _ C5) HU2.out HV2.out HK.out.2.2.1).mono ?_; rintro e v6 ⟨rfl, hd6⟩; have C6 : Below w9.heap.size w9 v6 := btr C5 hd6)
              | (go_at_call 16; refine (HMul.out _ (HM.out _ C6)).mono ?_; rintro e v7 ⟨u3, rfl, hu3, hd7⟩; have C7 : Below w9.heap.size w9 v7 := btr C6 hd7)
              | (go_at_call 17; refine (HRMul.out _ (HM.out _ C7)).mono ?_; rintro e v8 ⟨r3, rfl, hr3, hd8⟩; have C8 : Below w9.heap.size w9 v8 := btr C7 hd8; have HU3 := Lib.hid (hu3.below hd8); have HV3 := Lib.hid hr3)
              | (go_at_call_of 9 u3; refine (HSm.out _ _ _ (p * q) (HM.out _ C8) HU3.out HV3.out HK.out.2.2.2).mono ?_; rintro e v9 ⟨rfl, hd9⟩; have C9 : Below w9.heap.size w9 v9 := btr C8 hd9)
              | (go_at_call 18; refine (HCmp.out _ (HM.out _ C9)).mono ?_; rintro e v10 ⟨rfl, hd10⟩; have C10 : Below w9.heap.size w9 v10 := btr C9 hd10)
              | (go_at_call 19; refine (HRCmp.out _ (HM.out _ C10)).mono ?_; rintro e v11 ⟨rfl, hd11⟩; have C11 : Below w9.heap.size w9 v11 := btr C10 hd11)
              | (go_at_call_of 9 (Value.pointer (some ⟨bx, 0, none⟩)); refine (HSm.out _ _ _ p (HM.out _ C11) (HX.out _ (HM.out _ C11)) (HA.out _ (HM.out _ C11)) HK.out.1.1).mono ?_; rintro e v12 ⟨rfl, hd12⟩; have C12 : Below w9.heap.size w9 v12 := btr C11 hd12)
              | (go_at_call_of 9 (Value.pointer (some ⟨by', 0, none⟩)); refine (HSm.out _ _ _ q (HM.out _ C12) (HY.out _ (HM.out _ C12)) (HB.out _ (HM.out _ C12)) HK.out.1.2).mono ?_; rintro e v13 ⟨rfl, hd13⟩; have C13 : Below w9.heap.size w9 v13 := btr C12 hd13)
              | (go_at_call 6; refine (HWk.out _ (HM2.out _ C13)).mono ?_; rintro e v14 ⟨rfl, hd14⟩; have C14 : Below w9.heap.size w9 v14 := btr C13 hd14))
          all_goals
            have hF := HM2.out _ C14
            go_wp2
            go_ret
            exact ⟨rfl, hF⟩
      · have HRq := Lib.hid hrq
        clear hrq ht
        go_enter Tryz.func4, Tryz.ntmps4
        go_wp2_with fail
        refine (HRp.out w).mono ?_
        rintro e w1 ⟨sa, A1, n1, c1, A2, n2, c2, rfl, ha, hb1⟩
        obtain ⟨w2, hw2, hb2, hz2, KA⟩ := ref_box w1 sa (.slice A1 n1 c1) (.slice A2 n2 c2)
        have B2 := Lib.hid (btr hb1 hb2)
        clear ha hb1 hb2
        go_wp2_with fail
        refine (HRq.out w2).mono ?_
        rintro e w3 ⟨rfl, hb3⟩
        have B3 : Hid (Below w.heap.size w (w3.alloc (.cells #[.bool false, .slice none 0 0, .slice none 0 0] 29))) := btr B2.out (Below.alloc hb3 hb3.size _)
        clear hb3
        go_wp2_with fail
        refine (HWk.out _ B3.out).mono ?_
        rintro e we ⟨rfl, hbe⟩
        have BE := Lib.hid (btr B3.out hbe)
        clear hbe
        go_wp2
        go_ret
        exact ⟨rfl, BE.out⟩
    · have HRp := Lib.hid hrp
      have HRq : Hid (∀ W, Calls Tryz.prog 8 #[.string t] W fun e w' => ∃ b A n c A' n' c' h, e = .returned (.tuple #[.agg #[.bool b, .slice A n c, .slice A' n' c'], .int .i64 h]) ∧ Below W.heap.size W w') := fun W => by
        rcases both_small t m ht with ⟨q, kq, hxq, hrq⟩ | hrq
        · refine (hrq W).mono ?_
          rintro e w' ⟨b, A, n, c, A', n', c', rfl, _, hb⟩
          exact ⟨b, A, n, c, A', n', c', 0, rfl, hb⟩
        · refine (hrq W).mono ?_
          rintro e w' ⟨rfl, hb⟩
          exact ⟨false, none, 0, 0, none, 0, 0, 7, rfl, hb⟩
      clear hrp hs ht
      go_enter Tryz.func4, Tryz.ntmps4
      go_wp2_with fail
      refine (HRp.out w).mono ?_
      rintro e w1 ⟨rfl, hb1⟩
      have B2 : Hid (Below w.heap.size w (w1.alloc (.cells #[.bool false, .slice none 0 0, .slice none 0 0] 29))) := Below.alloc hb1 hb1.size _
      clear hb1
      go_wp2_with fail
      generalize (w1.alloc (.cells #[.bool false, .slice none 0 0, .slice none 0 0] 29)) = w2 at *
      refine (HRq.out w2).mono ?_
      rintro e w3 ⟨sb, A3, n3, c3, A4, n4, c4, h3, rfl, hb3⟩
      obtain ⟨w4, hw4, hb4, hz4, KB⟩ := ref_box w3 sb (.slice A3 n3 c3) (.slice A4 n4 c4)
      have B4 := Lib.hid (btr B2.out (btr hb3 hb4))
      clear hb3 hb4
      go_wp2_with fail
      refine (HWk.out _ B4.out).mono ?_
      rintro e we ⟨rfl, hbe⟩
      have BE := Lib.hid (btr B4.out hbe)
      clear hbe
      go_wp2
      go_ret
      exact ⟨rfl, BE.out⟩
  · have hl : (200 : Int) < (s.size : Int) ∨ (¬ (200 : Int) < (s.size : Int) ∧ (200 : Int) < (t.size : Int)) := by omega
    clear hst
    rcases hl with i1 | ⟨i1, i2⟩
    all_goals
      go_enter Tryz.func4, Tryz.ntmps4
      go_wp2_with fail
      refine (HWk.out _ R).mono ?_
      rintro e we ⟨rfl, hbe⟩
      have BE := Lib.hid (btr R hbe)
      clear hbe
      go_wp2
      go_ret
      exact ⟨rfl, BE.out⟩
end Go.Proofs.YthcpcaoapkmchaaGreatDoor
end

/- ExactComputes: whatever the two strings, sums, differences, products, quotients and the comparison of the numbers that they are are the document's own: the law returns true. Its row lists package-level variables of Go's library, tied to the program's text by the card. -/
section
namespace Go.Proofs.YthcpcaoapkmchaaGreatDoor
open Go.ChangeShapes Go.WideShapes Go.ChangeAt Go.RowKit

set_option maxRecDepth 100000 in
theorem computes_lifted (os : Os) (started : os.Started) (H : Type) (enc : TypeId × Value → H) :
    ReturnsInHanded {} Tryz.checked os 4 .any (fun w args => (Rows.exactComputesSpec.pre enc Tryz.prog Tryz.f4 [] false w args ∧ laidMetH Tryz.prog Rows.exactComputesRow.laid w) ∧ sizedMet enc Tryz.prog Tryz.f4 (OpenSpec.ofChange Rows.exactComputesSpec) false w args)
      (Rows.exactComputesSpec.post enc Tryz.prog Tryz.f4 false true false false) := by
  refine handed_laid_shaped (C := Tryz.checked) (X := fun w _ => laidMetH Tryz.prog Rows.exactComputesRow.laid w) (fun _ _ _ hh h => h.of_heap hh) own started (by kernel_rfl) Tryz.func4
    (ChangeSpec.witness_shaped (enc := enc) (C := Tryz.checked) (os := os) (X := fun w _ => laidMetH Tryz.prog Rows.exactComputesRow.laid w) false (World.laidAll Tryz.prog os Rows.exactComputesRow.laid) #[.string ⟨#[]⟩, .string ⟨#[]⟩] 8 (World.laidAll_os _ _ _)
      (World.shaped_of_ZipB (by kernel_rfl) (by kernel_rfl)) (by kernel_rfl) (by kernel_rfl) (by kernel_rfl)
      (by rw [MakeChecks.laidMetH_plain _ _ _ (by kernel_rfl)]; exact laidMet_laidAll _ (by kernel_rfl) (by kernel_rfl))) ?_
  intro W base args ds gs before hval0 hW hlaid hsh
  have hval : ∀ (j : Nat) t v, Tryz.f4.params[j]? = some t → args[j]? = some v → Value.okWide Tryz.prog W .any base t v := hval0
  have htab : Tab W := by
    rw [MakeChecks.laidMetH_plain _ _ _ (by kernel_rfl)] at hlaid
    exact tab_of hlaid
  have hW' := hW
  obtain ⟨p, q, hA0, hV, rfl, _, _⟩ := hW
  have hA : DataW.TrodAll enc Tryz.prog W 0 (fun _ => true) true Tryz.f4.params.toList args.toList ds p := hA0
  rw [Tryz.params4] at hA hval
  obtain ⟨v0, v1, d0, d1, p0, p1, rfl, rfl, rfl, h0, h1⟩ := trodAll_two hA
  obtain ⟨rfl, rfl⟩ := trodVars_none hV
  obtain ⟨s, rfl⟩ := okWide_string Tryz.underlying9 (hval 0 9 v0 rfl rfl)
  obtain ⟨t, rfl⟩ := okWide_string Tryz.underlying9 (hval 1 9 v1 rfl rfl)
  clear hA0 hval0
  simp only [List.append_nil] at hW'
  obtain ⟨m, hm⟩ := maxLen_cell hsh
  have hlt0 : ∀ x ∈ p0, x.block < W.heap.size := fun x hx => hW'.lt x (by simp [hx])
  have hlt1 : ∀ x ∈ p1, x.block < W.heap.size := fun x hx => hW'.lt x (by simp [hx])
  refine (l_computes W s t m htab hm).mono fun e W' ⟨he, hb⟩ => ?_
  subst he
  have tr := fun {v : Value} {d : DataW H} {ps : List MemPlace} (h : DataW.Trod enc Tryz.prog W 0 (fun _ => true) true 9 v d ps) (hlt : ∀ x ∈ ps, x.block < W.heap.size) =>
    Below.trod laidOut' (t := 9) (by kernel_rfl) (of_decide_eq_true (by kernel_rfl)) h hb hlt
  exact ⟨_, rfl, ⟨_, _, _, [], _, [], hW', trodAll_mk1 (shut_bool Tryz.underlying4 _), trodAll_mk2 (tr h0 hlt0) (tr h1 hlt1), rfl, hb.frame _, fun h => by cases h⟩⟩

theorem computes_row : Rows.ExactComputesSaid :=
  OpenClaim.holds_of_wide 4 Tryz.f4 rfl rfl rfl rfl rfl rfl rfl ⟨rfl, rfl, rfl, rfl, rfl⟩ rfl rfl rfl rfl rfl (by kernel_rfl) Tryz.func4 (by kernel_rfl)
    (of_decide_eq_true (by kernel_rfl)) (by unfold Func.isWrapper; first | (rw [if_pos (by decide +kernel)]; kernel_rfl) | (rw [if_neg (by decide +kernel)]; exact ⟨rfl, rfl⟩))
    (fun os started H enc _ => computes_lifted os started H enc)

theorem computes_card : Rows.ExactComputesCardSaid :=
  Claim7.holds_tied_plain_at .later [] Rows.exactComputesCard.laidKinds true Rows.exactComputesCard.stood.harness true
    computes_row (fun _ h => by cases h) (by kernel_rfl) (fun _ h => by cases h) exactComputes_row_tie rfl ⟨rfl, rfl⟩ (by kernel_rfl) rfl
    (fun f fn hf hfn => by
      obtain rfl : f = 4 := Option.some.inj ((show Tryz.prog.funcNamed "tesseract/tesseractlaw01.ExactComputes" = some 4 by kernel_rfl).symm.trans hf) |>.symm
      obtain rfl : fn = Tryz.f4 := (Option.some.inj (Tryz.func4.symm.trans hfn)).symm
      exact ⟨by kernel_rfl, fun j t ht => by
        rw [Tryz.params4] at ht
        have hin : t ∈ [9] := by have := Array.mem_of_getElem? ht; simpa using this
        have hall : ([9].all fun u => !Tryz.prog.wantsStandIn u) = true := by kernel_rfl
        exact (show Tryz.prog.wantsStandIn t = false by simpa using List.all_eq_true.1 hall t hin)⟩)
    (by kernel_rfl)
end Go.Proofs.YthcpcaoapkmchaaGreatDoor
end
