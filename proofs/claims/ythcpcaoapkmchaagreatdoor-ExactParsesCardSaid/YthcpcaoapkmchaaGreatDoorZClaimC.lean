/- ExactParses: whatever the string, the number that it is for the program, or that it is none, is the document's own answer: the law returns true. Its row lists package-level variables of Go's library, tied to the program's text by the card. -/
import Derived.Test.YthcpcaoapkmchaaGreatDoorZFloor
import Derived.Test.YthcpcaoapkmchaaGreatDoorZRatV
import Derived.Test.YthcpcaoapkmchaaGreatDoorZM9
import Derived.Test.YthcpcaoapkmchaaGreatDoorZNum9
import Derived.Test.YthcpcaoapkmchaaGreatDoorZRefC9
import Derived.Test.YthcpcaoapkmchaaGreatDoorZWk
import Derived.Test.YthcpcaoapkmchaaGreatDoorZSeeG
import Derived.Test.YthcpcaoapkmchaaGreatDoorTie
import Derived.Test.YthcpcaoapkmchaaGreatDoorCards
import Derived.Test.YthcpcaoapkmchaaGreatDoorZRow
import Derived.Test.YthcpcaoapkmchaaGreatDoorZRing
import Derived.SevenTiedAt

/- How many binary digits a number of any size has: what the calls return. -/
section
namespace Go.Proofs.YthcpcaoapkmchaaGreatDoor
open Go.RowKit Go.Deep

theorem below_drewN' {B : Nat} {a w : World} (h : Below B a w) (n : Nat) : Below B a (w.drewN n) := ⟨h.os, h.tape, h.output, h.size, h.block⟩
theorem halves_top (x n : Nat) (hx : x < W64 ^ (n + 1)) (h0 : dig x n ≠ 0) : halves x = 64 * n + halves (dig x n) := by
  have hW : W64 ^ n = 2 ^ (64 * n) := by rw [Nat.pow_mul]; rfl
  have ht : dig x n = x / W64 ^ n := by
    unfold dig
    rw [Nat.mod_eq_of_lt]
    rw [Nat.div_lt_iff_lt_mul (W64_pow_pos n), Nat.mul_comm, ← Nat.pow_succ]
    exact hx
  have h1 : ∀ j, x < 2 ^ (64 * n + j) ↔ dig x n < 2 ^ j := fun j => by
    rw [ht, Nat.div_lt_iff_lt_mul (W64_pow_pos n), hW, Nat.pow_add, Nat.mul_comm]
  have h2 : halves x ≤ 64 * n + halves (dig x n) := by
    rw [halves_le, h1, ← halves_le]
    exact Nat.le_refl _
  have h3 : 0 < halves (dig x n) := by rw [halves_step _ h0]; omega
  have h4 : ¬ halves x ≤ 64 * n + (halves (dig x n) - 1) := by
    rw [halves_le, h1, ← halves_le]; omega
  omega

set_option maxHeartbeats 1000000 in
theorem n_length (w : World) (v : Value) (x : Nat) (h : NatAt w v x) (hn : nw x ≤ 100000000) :
    Calls Tryz.prog 76 #[v] w fun e w' => e = .returned (.int .i64 (halves x : Int)) ∧ ∃ n, w' = w.drewN n := by
  obtain ⟨A, c, rfl, h1, h2, h3⟩ := h
  by_cases h0 : x = 0
  · have HL : Hid ((halves x : Int) = 0) := by show _ = _; rw [h0, halves_zero]; rfl
    rw [show nw x = 0 by rw [h0, nw_zero]]
    clear h0 h3 h1 hn
    go_enter Tryz.func76, Tryz.ntmps76
    go_wp2
    go_ret
    exact ⟨by rw [HL.out]; rfl, 0, rfl⟩
  · have hp : 0 < nw x := (nw_pos x).2 (by omega)
    have hd := dig_top x (by omega)
    have hlt := dig_lt x (nw x - 1)
    have hx := lt_nw x
    obtain ⟨k, hk⟩ : ∃ k, nw x = k + 1 := ⟨nw x - 1, by omega⟩
    rw [hk] at hx hd h1 h3 hlt ⊢
    simp only [Nat.add_sub_cancel] at hd hlt
    have HT := Lib.hid (halves_top x k hx hd)
    have hle : halves (dig x k) ≤ 64 := by rw [halves_le]; unfold W64 at hlt; omega
    obtain ⟨b, o, rfl, hc⟩ := h3.at_ (k := k) (by omega)
    have HLn := Lib.hid (fun W => Tryz.bits_Len64 (dig x k) W (by omega) (by unfold W64 at hlt; omega))
    have HLe : Hid ((Lib.bitLen (dig x k : Int).toNat : Int) = (halves (dig x k) : Int)) := by
      show _ = _
      rw [Int.toNat_natCast, halves_bitLen _ hlt]
    generalize dig x k = u at *
    generalize Lib.bitLen (u : Int).toNat = bl at *
    generalize halves u = hu at *
    have hbl : (bl : Int) = (hu : Int) := HLe.out
    have hk9 : k < 100000000 := by omega
    clear h3 hx hd hlt h1 h2
    go_enter Tryz.func76, Tryz.ntmps76
    go_wp2_with fail
    refine (HLn.out w).mono ?_
    rintro e w' ⟨rfl, rfl⟩
    clear HLn
    go_wp2
    go_ret
    exact ⟨ret_i (by rw [HT.out]; push_cast; omega), 0, rfl⟩

set_option maxHeartbeats 1000000 in
theorem c_BitsG (w : World) (v : Value) (neg : Bool) (n d : Nat) (h : RatAt w v neg n d) (hn1 : nw n ≤ 100000000) (hd1 : nw d ≤ 100000000) :
    Calls Tryz.prog 28 #[v] w fun e w' => e = .returned (.tuple #[.int .i64 (halves n : Int), .int .i64 (halves d : Int)]) ∧ Below w.heap.size w w' := by
  have HV := Lib.hid (c_valid w v neg n d h)
  obtain ⟨b, nv, dv, rfl, hlt, _, h1, h2, h3, hn, hd⟩ := h
  have HN := Lib.hid (fun k => n_length (w.drewN k) nv n (hn.drewN k) hn1)
  have HD := Lib.hid (fun k => n_length (w.drewN k) dv d (hd.drewN k) hd1)
  clear hn hd
  go_enter Tryz.func28, Tryz.ntmps28
  go_wp2_with fail
  refine HV.out.mono ?_
  rintro e w' ⟨rfl, rfl⟩
  go_wp2_with fail
  go_quiet ((first | (go_at_call_of 76 nv; exact (HN.out _).mono (fun e w9 h9 => ⟨h9.1, by obtain ⟨n9, h8⟩ := h9.2; exact ⟨_, h8.trans (World.drewN_drewN _ _ _)⟩⟩)) | (go_at_call_of 76 dv; exact (HD.out _).mono (fun e w9 h9 => ⟨h9.1, by obtain ⟨n9, h8⟩ := h9.2; exact ⟨_, h8.trans (World.drewN_drewN _ _ _)⟩⟩))))
  go_wp2
  go_ret2
  exact ⟨rfl, below_drewN' (Below.refl _ _) _⟩
theorem c_BitsQ (w : World) (x : Value) (q : Rat) (hx : RatV w x q) (k : RatW q 90000) :
    ∀ W, Below w.heap.size w W → Calls Tryz.prog 28 #[x] W fun e w' => e = .returned (.tuple #[.int .i64 (halves q.num.natAbs : Int), .int .i64 (halves q.den : Int)]) ∧ Below W.heap.size W w' :=
  fun W hW => c_BitsG W x _ _ _ (hx.below hW) (Nat.le_trans k.1 (by omega)) (Nat.le_trans k.2 (by omega))
end Go.Proofs.YthcpcaoapkmchaaGreatDoor
end

/- ExactParses: the walk of the law. -/
section
namespace Go.Proofs.YthcpcaoapkmchaaGreatDoor
open Go.RowKit Go.Deep

theorem nw_dec (l : List UInt8) (hd : ∀ b ∈ l, b.toNat ≤ 57) : nw (decN l) ≤ l.length := by
  have h1 := decN_lt _ l rfl hd
  have h2 : 10 ^ l.length ≤ 10 ^ (19 * l.length) := Nat.pow_le_pow_right (by decide) (by omega)
  exact (nw_le (decN l) l.length).2 (Nat.lt_of_lt_of_le h1 (Nat.le_trans h2 (ten_pow l.length)))
/-- A number with a short string has few words. -/
theorem txt_words (q : Rat) (h : (txt q).length ≤ 10000) : RatW q 10000 ∧ RefW q 1112 := by
  obtain ⟨⟨_, d1, d2, _⟩, _, e1, e2⟩ := txt_parts q
  obtain ⟨l1, l2⟩ := parts_len (txt q) 10000 h (by decide)
  refine ⟨⟨?_, ?_⟩, ?_, ?_⟩
  · rw [← e1]; exact Nat.le_trans (nw_dec _ fun b hb => (d1.2.2 b hb).2) l1
  · rw [← e2]; exact Nat.le_trans (nw_dec _ fun b hb => (d2.2.2 b hb).2) l2
  · rw [← e1]; exact nw9_dec _ d1 l1
  · rw [← e2]; exact nw9_dec _ d2 l2

set_option maxHeartbeats 1000000 in
theorem r_Parse_long (s : ByteArray) (w : World) (hs : 10000 < s.size) :
    Calls Tryz.prog 8 #[.string s] w fun e w' => e = .returned (.tuple #[.agg #[.bool false, .slice none 0 0, .slice none 0 0], .int .i64 8]) ∧ Below w.heap.size w w' := by
  obtain ⟨W0, hW0, hB0, hz0, KR⟩ := zero_box w
  have HB0 := Lib.hid hB0
  have i1 : ((10000 : Int) < (s.size : Int)) := by omega
  have hcell := KR.out W0 (Below.refl _ _)
  clear hB0 hs
  go_enter Tryz.func8, Tryz.ntmps8
  go_wp2_with (refine wpList_store_row 29 _ _ rfl rfl rfl w.heap.size 29 rfl [.bool false, .slice none 0 0, .slice none 0 0] rfl _ hcell rfl info_ref (ref_one _ _ _ _ _ _ _) ?_; intro wz hhz hgz hzz; have HGz := Lib.hid hgz; have HZz := Lib.hid hzz; clear hzz hgz hcell)
  exact bodyPost_ret (v := .tuple #[.agg #[.bool false, .slice none 0 0, .slice none 0 0], .int .i64 8]) (results_cell_tmp Tryz.results8 _ _ w.heap.size 29 _ (0, 0) _ rfl hhz Tryz.underlying29 rfl (by rw [info_ref]; rfl)) rfl
    ⟨rfl, HB0.out.grown HGz.out HB0.out.size (fun j hj => by injection hj with hj; omega)⟩
/-- The same string, for the program and for the reference. -/
theorem both_parse (s : ByteArray) (m : Int) (hs : s.size ≤ 10000) :
    (∃ q : Rat, RatW q 90000 ∧ RefW q 1112 ∧
      (∀ w, w.cell? ⟨0, 0, none⟩ = some (.int .i64 m) → Calls Tryz.prog 7 #[.string s] w fun e w' => ∃ b, e = .returned (.tuple #[.pointer (some ⟨b, 0, none⟩), .int .i64 0]) ∧ RatV w' (.pointer (some ⟨b, 0, none⟩)) q ∧ Below w.heap.size w w') ∧
      (∀ w, Calls Tryz.prog 8 #[.string s] w fun e w' => ∃ b A n c A' n' c', e = .returned (.tuple #[.agg #[.bool b, .slice A n c, .slice A' n' c'], .int .i64 0]) ∧ RefV w' (.agg #[.bool b, .slice A n c, .slice A' n' c']) q ∧ Below w.heap.size w w')) ∨
    ((∀ w, w.cell? ⟨0, 0, none⟩ = some (.int .i64 m) → Calls Tryz.prog 7 #[.string s] w fun e w' => e = .returned (.tuple #[.pointer none, .int .i64 7]) ∧ Below w.heap.size w w') ∧
      (∀ w, Calls Tryz.prog 8 #[.string s] w fun e w' => e = .returned (.tuple #[.agg #[.bool false, .slice none 0 0, .slice none 0 0], .int .i64 7]) ∧ Below w.heap.size w w')) := by
  by_cases h : ∃ q, s.data.toList = txt q
  · obtain ⟨q, hq⟩ := h
    have hl : (txt q).length ≤ 10000 := by rw [← hq]; simpa using hs
    obtain ⟨k, k9⟩ := txt_words q hl
    refine .inl ⟨q, k.mono (by decide), k9, fun w hm => ?_, fun w => ?_⟩
    · refine (v_Parse s m w hs hm).mono ?_
      rintro e w' (⟨u, q', rfl, h1, h2, h3⟩ | ⟨_, h1, _⟩)
      · obtain rfl := txt_inj (hq.symm.trans h1)
        obtain ⟨b, nv, dv, rfl, h4⟩ := h2
        exact ⟨b, rfl, ⟨b, nv, dv, rfl, h4⟩, h3⟩
      · exact absurd hq (h1 q)
    · refine (r_Parse s w hs).mono ?_
      rintro e w' ⟨⟨r, q', rfl, h1, h2⟩ | ⟨h1, _⟩, hb⟩
      · obtain rfl := txt_inj (hq.symm.trans h1)
        obtain ⟨u, v, rfl, hu, hv⟩ := h2
        obtain ⟨A, c, rfl⟩ := hu.sl
        obtain ⟨A', c', rfl⟩ := hv.sl
        exact ⟨_, A, _, c, A', _, c', rfl, ⟨_, _, rfl, hu, hv⟩, hb⟩
      · exact absurd hq (h1 q)
  · have hn : ∀ q, s.data.toList ≠ txt q := fun q e => h ⟨q, e⟩
    refine .inr ⟨fun w hm => ?_, fun w => ?_⟩
    · refine (v_Parse s m w hs hm).mono ?_
      rintro e w' (⟨u, q', rfl, h1, h2, h3⟩ | ⟨rfl, h1, h2⟩)
      · exact absurd h1 (hn _)
      · exact ⟨rfl, h2⟩
    · refine (r_Parse s w hs).mono ?_
      rintro e w' ⟨⟨r, q', rfl, h1, h2⟩ | ⟨_, rfl⟩, hb⟩
      · exact absurd h1 (hn _)
      · exact ⟨rfl, hb⟩

set_option maxRecDepth 100000 in
set_option maxHeartbeats 4000000 in
theorem l_parses (w : World) (s : ByteArray) (m : Int) (htab : Tab w) (hm : w.cell? ⟨0, 0, none⟩ = some (.int .i64 m)) :
    Calls Tryz.prog 3 #[.string s] w fun e w' => e = .returned (.bool true) ∧ Below w.heap.size w w' := by
  have h0 : 0 < w.heap.size := by
    by_cases h : 0 < w.heap.size
    · exact h
    · exfalso
      have : w.heap[0]? = none := Array.getElem?_eq_none (by omega)
      simp [World.cell?, this] at hm
  have HM : Hid (∀ W, Below w.heap.size w W → W.cell? ⟨0, 0, none⟩ = some (.int .i64 m)) := fun W hw => (hw.cell (p := ⟨0, 0, none⟩) h0).trans hm
  have HT : Hid (∀ W, Below w.heap.size w W → Tab W) := fun W hw => htab.below hw
  have HWk : Hid (∀ W, Below w.heap.size w W → Calls Tryz.prog 6 #[] W fun e w' => e = .returned (.bool true) ∧ Below W.heap.size W w') :=
    fun W hW => c_works W m (HM.out W hW)
  clear hm h0 htab
  have R : Below w.heap.size w w := Below.refl _ _
  by_cases h4 : 400 < s.size
  · by_cases h5 : s.size ≤ 10000
    · have i1 : (400 : Int) < (s.size : Int) := by omega
      have i2 : (s.size : Int) ≤ 10000 := by omega
      clear h4 h5
      go_enter Tryz.func3, Tryz.ntmps3
      go_wp2_with fail
      refine (HWk.out _ R).mono ?_
      rintro e w1 ⟨rfl, hb1⟩
      go_wp2
      go_ret
      exact ⟨rfl, hb1⟩
    · have HX := Lib.hid (v_Parse_long s w (by omega))
      have HR := Lib.hid (r_Parse_long s w (by omega))
      have i1 : (400 : Int) < (s.size : Int) := by omega
      have i2 : ¬ (s.size : Int) ≤ 10000 := by omega
      clear h4 h5
      go_enter Tryz.func3, Tryz.ntmps3
      go_wp2_with fail
      refine HX.out.mono ?_
      rintro e w1 ⟨rfl, rfl⟩
      go_wp2_with fail
      refine HR.out.mono ?_
      rintro e w2 ⟨rfl, hb2⟩
      have B3 : Hid (Below w.heap.size w (w2.alloc (.cells #[.bool false, .slice none 0 0, .slice none 0 0] 29))) := Below.alloc hb2 hb2.size _
      clear hb2
      go_wp2_with fail
      refine (HWk.out _ B3.out).mono ?_
      rintro e w4 ⟨rfl, hb4⟩
      have B4 := Lib.hid (btr B3.out hb4)
      clear hb4
      go_wp2
      go_ret
      exact ⟨rfl, B4.out⟩
  · have i1 : ¬ (400 : Int) < (s.size : Int) := by omega
    rcases both_parse s m (by omega) with ⟨q, k, k9, hx, hr⟩ | ⟨hx, hr⟩
    · have HX := Lib.hid hx
      have HR := Lib.hid hr
      have HK := Lib.hid (And.intro k k9)
      clear hx hr k k9 h4
      go_enter Tryz.func3, Tryz.ntmps3
      go_wp2_with fail
      refine (HX.out w (HM.out _ R)).mono ?_
      rintro e w1 ⟨bx, rfl, hu, hb1⟩
      have HU := Lib.hid hu
      have HB1 := Lib.hid hb1
      clear hu hb1
      go_wp2_with fail
      refine (HR.out w1).mono ?_
      rintro e w2 ⟨b, A, n, c, A', n', c', rfl, hv, hb2⟩
      obtain ⟨w3, hw3, hb3, hz3, K3⟩ := ref_box w2 b (.slice A n c) (.slice A' n' c')
      have HB3 := Lib.hid (btr HB1.out (btr hb2 hb3))
      have HU3 := Lib.hid ((HU.out.below hb2).below hb3)
      have HV3 := Lib.hid (hv.below hb3)
      obtain ⟨x0, x1, x2⟩ := K3.out w3 (Below.refl _ _)
      clear hv hb2 hb3
      go_wp2_with fail
      refine (l_same w3 _ _ q HU3.out HV3.out HK.out.1 ⟨Nat.le_trans HK.out.2.1 (by decide), Nat.le_trans HK.out.2.2 (by decide)⟩ (HT.out _ HB3.out) (c_BitsQ w3 _ q HU3.out HK.out.1)).mono ?_
      rintro e w4 ⟨rfl, hb4⟩
      have HB4 := Lib.hid (btr HB3.out hb4)
      clear hb4 x0 x1 x2
      go_wp2_with fail
      refine (HWk.out _ HB4.out).mono ?_
      rintro e w5 ⟨rfl, hb5⟩
      have HB5 := Lib.hid (btr HB4.out hb5)
      clear hb5
      go_wp2
      go_ret
      exact ⟨rfl, HB5.out⟩
    · have HX := Lib.hid hx
      have HR := Lib.hid hr
      clear hx hr h4
      go_enter Tryz.func3, Tryz.ntmps3
      go_wp2_with fail
      refine (HX.out w (HM.out _ R)).mono ?_
      rintro e w1 ⟨rfl, hb1⟩
      go_wp2_with fail
      refine (HR.out w1).mono ?_
      rintro e w2 ⟨rfl, hb2⟩
      have B3 : Hid (Below w.heap.size w (w2.alloc (.cells #[.bool false, .slice none 0 0, .slice none 0 0] 29))) := btr hb1 (Below.alloc hb2 hb2.size _)
      clear hb1 hb2
      go_wp2_with fail
      refine (HWk.out _ B3.out).mono ?_
      rintro e w4 ⟨rfl, hb4⟩
      have B4 := Lib.hid (btr B3.out hb4)
      clear hb4
      go_wp2
      go_ret
      exact ⟨rfl, B4.out⟩
end Go.Proofs.YthcpcaoapkmchaaGreatDoor
end

/- ExactParses: whatever the string, the number that it is for the program, or that it is none, is the document's own answer: the law returns true. Its row lists package-level variables of Go's library, tied to the program's text by the card. -/
section
namespace Go.Proofs.YthcpcaoapkmchaaGreatDoor
open Go.ChangeShapes Go.WideShapes Go.ChangeAt Go.RowKit

set_option maxRecDepth 100000 in
theorem parses_lifted (os : Os) (started : os.Started) (H : Type) (enc : TypeId × Value → H) :
    ReturnsInHanded {} Tryz.checked os 3 .any (fun w args => (Rows.exactParsesSpec.pre enc Tryz.prog Tryz.f3 [] false w args ∧ laidMetH Tryz.prog Rows.exactParsesRow.laid w) ∧ sizedMet enc Tryz.prog Tryz.f3 (OpenSpec.ofChange Rows.exactParsesSpec) false w args)
      (Rows.exactParsesSpec.post enc Tryz.prog Tryz.f3 false true false false) := by
  refine handed_laid_shaped (C := Tryz.checked) (X := fun w _ => laidMetH Tryz.prog Rows.exactParsesRow.laid w) (fun _ _ _ hh h => h.of_heap hh) own started (by kernel_rfl) Tryz.func3
    (ChangeSpec.witness_shaped (enc := enc) (C := Tryz.checked) (os := os) (X := fun w _ => laidMetH Tryz.prog Rows.exactParsesRow.laid w) false (World.laidAll Tryz.prog os Rows.exactParsesRow.laid) #[.string ⟨#[]⟩] 8 (World.laidAll_os _ _ _)
      (World.shaped_of_ZipB (by kernel_rfl) (by kernel_rfl)) (by kernel_rfl) (by kernel_rfl) (by kernel_rfl)
      (by rw [MakeChecks.laidMetH_plain _ _ _ (by kernel_rfl)]; exact laidMet_laidAll _ (by kernel_rfl) (by kernel_rfl))) ?_
  intro W base args ds gs before hval0 hW hlaid hsh
  have hval : ∀ (j : Nat) t v, Tryz.f3.params[j]? = some t → args[j]? = some v → Value.okWide Tryz.prog W .any base t v := hval0
  have htab : Tab W := by
    rw [MakeChecks.laidMetH_plain _ _ _ (by kernel_rfl)] at hlaid
    exact tab_of hlaid
  have hW' := hW
  obtain ⟨p, q, hA0, hV, rfl, _, _⟩ := hW
  have hA : DataW.TrodAll enc Tryz.prog W 0 (fun _ => true) true Tryz.f3.params.toList args.toList ds p := hA0
  rw [Tryz.params3] at hA hval
  obtain ⟨v0, d0, rfl, rfl, h0⟩ := trodAll_one hA
  obtain ⟨rfl, rfl⟩ := trodVars_none hV
  obtain ⟨s, rfl⟩ := okWide_string Tryz.underlying9 (hval 0 9 v0 rfl rfl)
  clear hA0 hval0
  simp only [List.append_nil] at hW'
  obtain ⟨m, hm⟩ := maxLen_cell hsh
  have hlt0 : ∀ x ∈ p, x.block < W.heap.size := fun x hx => hW'.lt x (by simp [hx])
  refine (l_parses W s m htab hm).mono fun e W' ⟨he, hb⟩ => ?_
  subst he
  have tr := fun {v : Value} {d : DataW H} {ps : List MemPlace} (h : DataW.Trod enc Tryz.prog W 0 (fun _ => true) true 9 v d ps) (hlt : ∀ x ∈ ps, x.block < W.heap.size) =>
    Below.trod laidOut' (t := 9) (by kernel_rfl) (of_decide_eq_true (by kernel_rfl)) h hb hlt
  exact ⟨_, rfl, ⟨_, _, _, [], _, [], hW', trodAll_mk1 (shut_bool Tryz.underlying4 _), trodAll_mk1 (tr h0 hlt0), rfl, hb.frame _, fun h => by cases h⟩⟩

theorem parses_row : Rows.ExactParsesSaid :=
  OpenClaim.holds_of_wide 3 Tryz.f3 rfl rfl rfl rfl rfl rfl rfl ⟨rfl, rfl, rfl, rfl, rfl⟩ rfl rfl rfl rfl rfl (by kernel_rfl) Tryz.func3 (by kernel_rfl)
    (of_decide_eq_true (by kernel_rfl)) (by unfold Func.isWrapper; first | (rw [if_pos (by decide +kernel)]; kernel_rfl) | (rw [if_neg (by decide +kernel)]; exact ⟨rfl, rfl⟩))
    (fun os started H enc _ => parses_lifted os started H enc)

theorem parses_card : Rows.ExactParsesCardSaid :=
  Claim7.holds_tied_plain_at .later [] Rows.exactParsesCard.laidKinds true Rows.exactParsesCard.stood.harness true
    parses_row (fun _ h => by cases h) (by kernel_rfl) (fun _ h => by cases h) exactParses_row_tie rfl ⟨rfl, rfl⟩ (by kernel_rfl) rfl
    (fun f fn hf hfn => by
      obtain rfl : f = 3 := Option.some.inj ((show Tryz.prog.funcNamed "tesseract/tesseractlaw01.ExactParses" = some 3 by kernel_rfl).symm.trans hf) |>.symm
      obtain rfl : fn = Tryz.f3 := (Option.some.inj (Tryz.func3.symm.trans hfn)).symm
      exact ⟨by kernel_rfl, fun j t ht => by
        rw [Tryz.params3] at ht
        have hin : t ∈ [9] := by have := Array.mem_of_getElem? ht; simpa using this
        have hall : ([9].all fun u => !Tryz.prog.wantsStandIn u) = true := by kernel_rfl
        exact (show Tryz.prog.wantsStandIn t = false by simpa using List.all_eq_true.1 hall t hin)⟩)
    (by kernel_rfl)
end Go.Proofs.YthcpcaoapkmchaaGreatDoor
end
