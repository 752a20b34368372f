/- ExactBack: whatever the pairs and the two values, the number that the pairs make is found again from its string, and each valid value from its own: the law returns true. Its row lists package-level variables of Go's library, tied to the program's text by the card. -/
import Derived.Test.YthcpcaoapkmchaaGreatDoorZRow
import Derived.Test.YthcpcaoapkmchaaGreatDoorZRing
import Derived.ChangeArms
import Derived.Test.YthcpcaoapkmchaaGreatDoorZSeeG
import Derived.Test.YthcpcaoapkmchaaGreatDoorZRdV
import Derived.Test.YthcpcaoapkmchaaGreatDoorTie
import Derived.Test.YthcpcaoapkmchaaGreatDoorCards
import Derived.SevenTiedAt

/- A value out of a row's condition. -/
section
namespace Go.Proofs.YthcpcaoapkmchaaGreatDoor
open Go.ChangeShapes Go.WideShapes Go.ChangeAt Go.RowKit

theorem val_fieldsA : ∃ f0 f1 f2 f3 : Field, Tryz.prog.underlying 43 = some (.struct #[f0, f1, f2, f3]) ∧ f0.type = 3 ∧ f0.offset = 0 ∧ f1.type = 2 ∧ f1.offset = 1 ∧ f2.type = 2 ∧ f2.offset = 2 ∧ f3.type = 9 ∧ f3.offset = 3 :=
  ⟨_, _, _, _, Tryz.underlying43, rfl, rfl, rfl, rfl, rfl, rfl, rfl, rfl⟩
section
variable {H : Type} {enc : TypeId × Value → H} {w : World} {base : Nat} {spare : Nat → Bool} {held : Bool}
theorem open_valL {fuel : Nat} {c0 c1 c2 c3 : Value} {x : DataW H × List MemPlace} (h : DataW.trod enc Tryz.prog w base spare held fuel 43 [c0, c1, c2, c3] = some x) :
    ∃ (k n d : Int) (s : ByteArray), c0 = .int .i64 k ∧ c1 = .int .i64 n ∧ c2 = .int .i64 d ∧ c3 = .string s ∧ s.size ≤ 9223372036854775807 := by
  obtain ⟨f0, f1, f2, f3, hu, t0, o0, t1, o1, t2, o2, t3, o3⟩ := val_fieldsA
  obtain ⟨xs, n, _, _, _, hlen, hf⟩ := DataW.trod_struct hu h
  have l0 : 0 < xs.length := by rw [hlen]; simp
  have l1 : 1 < xs.length := by rw [hlen]; simp
  have l2 : 2 < xs.length := by rw [hlen]; simp
  have l3 : 3 < xs.length := by rw [hlen]; simp
  have q0 := hf 0 f0 rfl
  have q1 := hf 1 f1 rfl
  have q2 := hf 2 f2 rfl
  have q3 := hf 3 f3 rfl
  have ci : Tryz.prog.cellsOf 3 = 1 := by kernel_rfl
  have c6 : Tryz.prog.cellsOf 2 = 1 := by kernel_rfl
  have cs : Tryz.prog.cellsOf 9 = 1 := by kernel_rfl
  rw [t0, o0, ci, List.getElem?_eq_getElem l0] at q0
  rw [t1, o1, c6, List.getElem?_eq_getElem l1] at q1
  rw [t2, o2, c6, List.getElem?_eq_getElem l2] at q2
  rw [t3, o3, cs, List.getElem?_eq_getElem l3] at q3
  obtain ⟨z0, e0, _, _⟩ := DataW.trod_int Tryz.underlying3 q0
  obtain ⟨z1, e1, _, _⟩ := DataW.trod_int Tryz.underlying2 q1
  obtain ⟨z2, e2, _, _⟩ := DataW.trod_int Tryz.underlying2 q2
  obtain ⟨z3, e3, _, hz⟩ := DataW.trod_string Tryz.underlying9 q3
  exact ⟨z0, z1, z2, z3, by simpa using e0, by simpa using e1, by simpa using e2, by simpa using e3, hz⟩
set_option maxRecDepth 100000 in
theorem open_valA {r : Reach} {b0 : Nat} {v : Value} {dt : DataW H} {ps : List MemPlace} (hval : Value.okWide Tryz.prog w r b0 43 v) (hd : DataW.Trod enc Tryz.prog w base spare held 43 v dt ps) :
    ∃ (k n d : Int) (s : ByteArray), v = V k n d s ∧ s.size ≤ 9223372036854775807 := by
  obtain ⟨f0, f1, f2, f3, hu, _⟩ := val_fieldsA
  obtain ⟨cs, rfl, hsz⟩ := okWide_struct hu hval
  have c4 : Tryz.prog.cellsOf 43 = 4 := by kernel_rfl
  rw [c4] at hsz
  obtain ⟨fuel, hf⟩ := hd
  obtain ⟨l⟩ := cs
  match l, hsz with
  | [c0, c1, c2, c3], _ =>
    have hf' : DataW.trod enc Tryz.prog w base spare held fuel 43 [c0, c1, c2, c3] = some (dt, ps) := hf
    obtain ⟨k, n, d, s, rfl, rfl, rfl, rfl, hz⟩ := open_valL hf'
    exact ⟨k, n, d, s, rfl, hz⟩
end
end Go.Proofs.YthcpcaoapkmchaaGreatDoor
end

/- The number that pairs make has few words, and its string is short. -/
section
namespace Go.Proofs.YthcpcaoapkmchaaGreatDoor
open Go.RowKit Go.Deep

theorem ratW_addT {p q : Rat} {a b : Nat} (hp : RatW p a) (hq : RatW q b) : RatW (p + q) (a + b + 1) := by
  obtain ⟨e1, e2⟩ := rat_add p q _ _ _ _ _ rfl rfl rfl rfl rfl
  have g1 : p.num.natAbs * q.den < W64 ^ (a + b) := by
    rw [Nat.pow_add]
    exact Nat.mul_lt_mul'' ((nw_le _ _).1 hp.1) ((nw_le _ _).1 hq.2)
  have g2 : q.num.natAbs * p.den < W64 ^ (a + b) := by
    rw [Nat.pow_add, Nat.mul_comm]
    exact Nat.mul_lt_mul'' ((nw_le _ _).1 hp.2) ((nw_le _ _).1 hq.1)
  have h4 := nw_mul p.den q.den
  refine ⟨?_, ?_⟩
  · rw [e1, nw_le]
    refine Nat.lt_of_le_of_lt (m := p.num.natAbs * q.den + q.num.natAbs * p.den) ?_ ?_
    · refine Nat.le_trans (Int.natAbs_ediv_le_natAbs _ _) ?_
      refine Nat.le_trans (Int.natAbs_add_le _ _) ?_
      rw [Int.natAbs_mul, Int.natAbs_mul, Int.natAbs_natCast, Int.natAbs_natCast]
      exact Nat.add_le_add (Nat.mul_le_mul_left _ (Nat.div_le_self _ _)) (Nat.mul_le_mul_left _ (Nat.div_le_self _ _))
    · have h2 : W64 ^ (a + b) * 2 ≤ W64 ^ (a + b + 1) := by
        rw [Nat.pow_succ]
        exact Nat.mul_le_mul_left _ (by unfold W64; omega)
      omega
  · rw [e2]
    refine Nat.le_trans (nw_mono (y := p.den * q.den) ?_) (by have := hp.2; have := hq.2; omega)
    exact Nat.mul_le_mul (Nat.div_le_self _ _) (Nat.div_le_self _ _)
/-- How many words a number has that some pairs make. -/
def bndT : Nat → Nat
  | 0 => 1
  | i + 1 => if i % 2 = 0 then bndT i + 1 else bndT i + 2
theorem bndT_le : ∀ n, n ≤ 12 → bndT n ≤ 19 := by decide
theorem txt_len {q : Rat} (k : RatW q 19) : (txt q).length ≤ 10000 := by
  have hn1 : (Lib.decDigits q.num.natAbs).length ≤ 20 * (nw q.num.natAbs + 1) := dec_len_words _ _ (Nat.lt_of_lt_of_le (lt_nw _) (Nat.pow_le_pow_right W64_pos (Nat.le_succ _))) (Nat.succ_pos _)
  have hd1 : (Lib.decDigits q.den).length ≤ 20 * (nw q.den + 1) := dec_len_words _ _ (Nat.lt_of_lt_of_le (lt_nw _) (Nat.pow_le_pow_right W64_pos (Nat.le_succ _))) (Nat.succ_pos _)
  have h1 := k.1
  have h2 := k.2
  unfold txt ratText
  rw [List.length_append, List.length_append]
  have e1 : (if decide (q.num < 0) = true then [45] else ([] : List UInt8)).length ≤ 1 := by split <;> simp
  have e2 : (if q.den = 1 then [] else 47 :: Lib.decDigits q.den).length ≤ 1 + (Lib.decDigits q.den).length := by split <;> simp <;> omega
  omega

set_option maxRecDepth 100000 in
set_option maxHeartbeats 4000000 in
theorem l_madeT (w : World) (A : Option Addr) (n c : Nat) (ts us : Nat → Int) (h : Pairs w A n ts us) (hn : n ≤ 12) :
    Calls Tryz.prog 20 #[.slice A n c] w fun e w' => ∃ u q, e = .returned u ∧ RatV w' u q ∧ RatW q (bndT n) ∧ Below w.heap.size w w' := by
  have H1 := Lib.hid (v_Of w 1 1 (by omega) (by omega) (by omega) (by omega) (by omega))
  go_enter Tryz.func20, Tryz.ntmps20
  go_wp2_with fail
  refine H1.out.mono ?_
  rintro e w1 ⟨u1, q1, rfl, hu1, hq1, hb1⟩
  go_wp2_with fail
  go_loopw [3, 5, 6, 7, 8] (fun xv i _ _ _ wr => ∃ (k : Nat) (q : Rat), k ≤ n ∧ i = .int .i64 k ∧ Hid (RatV wr xv q) ∧ Hid (RatW q (bndT k)) ∧ Hid (Below w.heap.size w wr)) (fun _ i _ _ _ _ => n - (intOf i).toNat)
  case atStart => exact ⟨0, q1, by omega, rfl, hu1, hq1, hb1⟩
  case round =>
    obtain ⟨k, q, hk, rfl, HV, HW, HB⟩ := hrel
    clear hu1 hq1 hb1
    have hbk : bndT k ≤ 400 := by have := bndT_le k (by omega); omega
    by_cases hlt : k < n
    · obtain ⟨b, o, rfl, hlb, hc⟩ := h (by omega)
      obtain ⟨c1, c2, r1, r2⟩ := hc k hlt
      have d1 := (HB.out.cell (p := ⟨b, o + k * 2, none⟩) hlb).trans c1
      have d2 := (HB.out.cell (p := ⟨b, o + k * 2 + 1, none⟩) hlb).trans c2
      have hb2 : bndT (k + 1) = if k % 2 = 0 then bndT k + 1 else bndT k + 2 := rfl
      have hkk : (k : Int) < (n : Int) := by omega
      have HC := Lib.hid hc
      clear hc c1 c2 h
      generalize ts k = t at *
      generalize us k = s at *
      by_cases hs : s = 0
      · subst hs
        have HO := Lib.hid (v_Of wr t 1 r1.1 r1.2 (by omega) (by omega) (by omega))
        go_wp2_with fail
        refine HO.out.mono ?_
        rintro e w2 ⟨u9, q9, rfl, hu9, hq9, hb9⟩
        clear HO d1 d2
        by_cases hk2 : k % 2 = 0
        · have e1 : (((k : Int) % 2) == 0) = true := by rw [beq_iff_eq]; omega
          have HOp := Lib.hid (v_Mul w2 u3 u9 q q9 (HV.out.below hb9) hu9 (HW.out.mono (by omega)) (hq9.mono (by omega)))
          have HWn : Hid (RatW (q * q9) (bndT (k + 1))) := by
            show RatW _ _
            rw [hb2, if_pos hk2]
            exact ratW_mul HW.out hq9
          have HB2 : Hid (Below w.heap.size w w2) := HB.out.trans (hb9.mono HB.out.size)
          clear hb2 hb9 hu9
          go_wp2_with fail
          refine HOp.out.mono ?_
          rintro e w3 ⟨u10, rfl, hu10, hb10⟩
          have HB3 : Hid (Below w.heap.size w w3) := HB2.out.trans (hb10.mono HB2.out.size)
          have HV3 := Lib.hid hu10
          clear hu10 hb10
          go_wp2
          exact ⟨⟨k + 1, q * q9, by omega, by go_num, HV3.out, HWn.out, HB3.out⟩, by simp [intOf]; omega⟩
        · have e1 : (((k : Int) % 2) == 0) = false := by rw [beq_eq_false_iff_ne]; omega
          have HOp := Lib.hid (v_Add w2 u3 u9 q q9 (HV.out.below hb9) hu9 (HW.out.mono (by omega)) (hq9.mono (by omega)))
          have HWn : Hid (RatW (q + q9) (bndT (k + 1))) := by
            show RatW _ _
            rw [hb2, if_neg hk2]
            exact ratW_addT HW.out hq9
          have HB2 : Hid (Below w.heap.size w w2) := HB.out.trans (hb9.mono HB.out.size)
          clear hb2 hb9 hu9
          go_wp2_with fail
          refine HOp.out.mono ?_
          rintro e w3 ⟨u10, rfl, hu10, hb10⟩
          have HB3 : Hid (Below w.heap.size w w3) := HB2.out.trans (hb10.mono HB2.out.size)
          have HV3 := Lib.hid hu10
          clear hu10 hb10
          go_wp2
          exact ⟨⟨k + 1, q + q9, by omega, by go_num, HV3.out, HWn.out, HB3.out⟩, by simp [intOf]; omega⟩
      · have hs1 : (s == 0) = false := by rw [beq_eq_false_iff_ne]; exact hs
        have HO := Lib.hid (v_Of wr t s r1.1 r1.2 r2.1 r2.2 hs)
        go_wp2_with fail
        refine HO.out.mono ?_
        rintro e w2 ⟨u9, q9, rfl, hu9, hq9, hb9⟩
        clear HO d1 d2
        by_cases hk2 : k % 2 = 0
        · have e1 : (((k : Int) % 2) == 0) = true := by rw [beq_iff_eq]; omega
          have HOp := Lib.hid (v_Mul w2 u3 u9 q q9 (HV.out.below hb9) hu9 (HW.out.mono (by omega)) (hq9.mono (by omega)))
          have HWn : Hid (RatW (q * q9) (bndT (k + 1))) := by
            show RatW _ _
            rw [hb2, if_pos hk2]
            exact ratW_mul HW.out hq9
          have HB2 : Hid (Below w.heap.size w w2) := HB.out.trans (hb9.mono HB.out.size)
          clear hb2 hb9 hu9
          go_wp2_with fail
          refine HOp.out.mono ?_
          rintro e w3 ⟨u10, rfl, hu10, hb10⟩
          have HB3 : Hid (Below w.heap.size w w3) := HB2.out.trans (hb10.mono HB2.out.size)
          have HV3 := Lib.hid hu10
          clear hu10 hb10
          go_wp2
          exact ⟨⟨k + 1, q * q9, by omega, by go_num, HV3.out, HWn.out, HB3.out⟩, by simp [intOf]; omega⟩
        · have e1 : (((k : Int) % 2) == 0) = false := by rw [beq_eq_false_iff_ne]; omega
          have HOp := Lib.hid (v_Add w2 u3 u9 q q9 (HV.out.below hb9) hu9 (HW.out.mono (by omega)) (hq9.mono (by omega)))
          have HWn : Hid (RatW (q + q9) (bndT (k + 1))) := by
            show RatW _ _
            rw [hb2, if_neg hk2]
            exact ratW_addT HW.out hq9
          have HB2 : Hid (Below w.heap.size w w2) := HB.out.trans (hb9.mono HB.out.size)
          clear hb2 hb9 hu9
          go_wp2_with fail
          refine HOp.out.mono ?_
          rintro e w3 ⟨u10, rfl, hu10, hb10⟩
          have HB3 : Hid (Below w.heap.size w w3) := HB2.out.trans (hb10.mono HB2.out.size)
          have HV3 := Lib.hid hu10
          clear hu10 hb10
          go_wp2
          exact ⟨⟨k + 1, q + q9, by omega, by go_num, HV3.out, HWn.out, HB3.out⟩, by simp [intOf]; omega⟩
    · obtain rfl : k = n := by omega
      clear h
      go_wp2
      go_ret
      exact ⟨u3, q, rfl, HV.out, HW.out, HB.out⟩
end Go.Proofs.YthcpcaoapkmchaaGreatDoor
end

/- ExactBack: the walk of the law. -/
section
namespace Go.Proofs.YthcpcaoapkmchaaGreatDoor
open Go.RowKit Go.Deep

set_option maxRecDepth 100000 in
set_option maxHeartbeats 8000000 in
theorem l_back (w : World) (A : Option Addr) (n1 c1 : Nat) (t1 s1 : Nat → Int) (h1 : Pairs w A n1 t1 s1) (k n d : Int) (s : ByteArray) (k' n' d' : Int) (s' : ByteArray) (m : Int) (htab : Tab w) (hm : w.cell? ⟨0, 0, none⟩ = some (.int .i64 m)) :
    Calls Tryz.prog 5 #[.slice A n1 c1, V k n d s, V k' n' d' s'] w fun e w' => e = .returned (.bool true) ∧ Below w.heap.size w w' := by
  have h0 : 0 < w.heap.size := by
    by_cases h : 0 < w.heap.size
    · exact h
    · exfalso
      have : w.heap[0]? = none := Array.getElem?_eq_none (by omega)
      simp [World.cell?, this] at hm
  have HM : Hid (∀ W, Below w.heap.size w W → W.cell? ⟨0, 0, none⟩ = some (.int .i64 m)) := fun W hw => (hw.cell (p := ⟨0, 0, none⟩) h0).trans hm
  have HT : Hid (∀ W, Below w.heap.size w W → Tab W) := fun W hw => htab.below hw
  have H1 : Hid (∀ W, Below w.heap.size w W → Pairs W A n1 t1 s1) := fun W hw => h1.below hw
  have HWk : Hid (∀ W, Below w.heap.size w W → Calls Tryz.prog 6 #[] W fun e w' => e = .returned (.bool true) ∧ Below W.heap.size W w') :=
    fun W hW => c_works W m (HM.out W hW)
  obtain ⟨W0, W1, hW0, hW1, hz0, hbel, K⟩ := vals_box w k n d s k' n' d' s'
  have HBE := Lib.hid hbel
  clear hbel hm htab h1 h0
  by_cases hl : n1 ≤ 12
  · have i1 : ((12 : Int) < (n1 : Int)) = False := by simp; omega
    go_enter Tryz.func5, Tryz.ntmps5
    go_wp2_with fail
    refine (l_madeT W1 A n1 c1 t1 s1 (H1.out W1 HBE.out) hl).mono ?_
    rintro e w2 ⟨x, q, rfl, hx, hq, hb2⟩
    have B2 : Hid (Below W1.heap.size W1 w2) := hb2
    have X2 : Hid (∀ W, Below w2.heap.size w2 W → RatV W x q) := fun W hW => hx.below hW
    have HTx : Hid (∀ W, Below w2.heap.size w2 W → Calls Tryz.prog 21 #[x] W fun e w' => e = .returned (.string ⟨(txt q).toArray⟩) ∧ Below W.heap.size W w') := fun W hW =>
      v_Text W x q (X2.out W hW) ((hq.mono (bndT_le _ hl)).mono (by omega)) (HT.out W (btr HBE.out (btr B2.out hW)))
    have hlen := txt_len (hq.mono (bndT_le _ hl))
    have HPa : Hid (∀ W, Below w2.heap.size w2 W → Calls Tryz.prog 7 #[.string ⟨(txt q).toArray⟩] W fun e w' => ∃ u, e = .returned (.tuple #[u, .int .i64 0]) ∧ RatV w' u q ∧ Below W.heap.size W w') := fun W hW => by
      refine (v_Parse ⟨(txt q).toArray⟩ m W (by show (txt q).toArray.size ≤ _; rw [List.size_toArray]; exact hlen) (HM.out W (btr HBE.out (btr B2.out hW)))).mono ?_
      rintro e w' (⟨u, q', rfl, h1, h2, h3⟩ | ⟨_, h1, _⟩)
      · have e1 : txt q = txt q' := h1
        obtain rfl := txt_inj e1
        exact ⟨u, rfl, h2, h3⟩
      · exact absurd rfl (h1 q)
    have HEq : Hid (∀ W y, Below w2.heap.size w2 W → RatV W y q → Calls Tryz.prog 22 #[x, y] W fun e w' => e = .returned (.bool true) ∧ Below W.heap.size W w') := fun W y hW hy =>
      l_equal W x y q (X2.out W hW) hy ((hq.mono (bndT_le _ hl)).mono (by omega)) (HT.out W (btr HBE.out (btr B2.out hW)))
    obtain ⟨bx, _, _, rfl, _⟩ := hx
    have HP1 : Hid (∀ W, Below w2.heap.size w2 W → Calls Tryz.prog 23 #[V k n d s] W fun e w' => e = .returned (.tuple #[.string (prnV k n d s), .int .i64 (errB (okB k n d s))]) ∧ Below W.heap.size W w') := fun W hW =>
      v_Print k n d s m W (HT.out W (btr HBE.out (btr B2.out hW))) (HM.out W (btr HBE.out (btr B2.out hW)))
    have HP2 : Hid (∀ W, Below w2.heap.size w2 W → Calls Tryz.prog 23 #[V k' n' d' s'] W fun e w' => e = .returned (.tuple #[.string (prnV k' n' d' s'), .int .i64 (errB (okB k' n' d' s'))]) ∧ Below W.heap.size W w') := fun W hW =>
      v_Print k' n' d' s' m W (HT.out W (btr HBE.out (btr B2.out hW))) (HM.out W (btr HBE.out (btr B2.out hW)))
    have HCk := Lib.hid (fun W => v_Check k n d s W)
    have HRd : Hid (∀ W, Below w2.heap.size w2 W → Calls Tryz.prog 25 #[.string (prnV k n d s)] W fun e w' => ∃ k' n' d' s' h, e = .returned (.tuple #[V k' n' d' s', .int .i64 h]) ∧ (okB k n d s = true → k' = k ∧ n' = n ∧ d' = d ∧ s' = s ∧ h = 0) ∧ Below W.heap.size W w') := fun W hW =>
      v_ReadP k n d s m W (HT.out W (btr HBE.out (btr B2.out hW))) (HM.out W (btr HBE.out (btr B2.out hW)))
    have HInj : Hid (okB k n d s = true → okB k' n' d' s' = true → prnV k n d s = prnV k' n' d' s' → k = k' ∧ n = n' ∧ d = d' ∧ s = s') := fun h h' e => prnV_inj h h' e
    clear hlen hq hb2
    generalize txt q = T at *
    go_wp2_with fail
    refine (HTx.out _ (Below.refl _ _)).mono ?_
    rintro e w3 ⟨rfl, hb3⟩
    have B3 : Hid (Below w2.heap.size w2 w3) := hb3
    clear hb3
    go_wp2_with fail
    refine (HPa.out _ B3.out).mono ?_
    rintro e w4 ⟨y, rfl, hy, hb4⟩
    have B4 : Hid (Below w2.heap.size w2 w4) := btr B3.out hb4
    have HY := Lib.hid hy
    clear hb4
    obtain ⟨by', _, _, rfl, _⟩ := hy
    go_wp2_with fail
    refine (HEq.out w4 _ B4.out HY.out).mono ?_
    rintro e w5 ⟨rfl, hb5⟩
    have B5 : Hid (Below w2.heap.size w2 w5) := btr B4.out hb5
    obtain ⟨⟨a0, a1, a2, a3⟩, ⟨a4, a5, a6, a7⟩⟩ := K.out w5 (btr B2.out B5.out)
    clear hb5
    go_wp2_with fail
    refine (HP1.out w5 B5.out).mono ?_
    rintro e w6 ⟨rfl, hb6⟩
    have B6 : Hid (Below w2.heap.size w2 w6) := btr B5.out hb6
    clear hb6 a0 a1 a2 a3 a4 a5 a6 a7
    obtain ⟨⟨a0, a1, a2, a3⟩, ⟨a4, a5, a6, a7⟩⟩ := K.out w6 (btr B2.out B6.out)
    go_wp2_with fail
    refine (HP2.out w6 B6.out).mono ?_
    rintro e w7 ⟨rfl, hb7⟩
    have B7 : Hid (Below w2.heap.size w2 w7) := btr B6.out hb7
    clear hb7 a0 a1 a2 a3 a4 a5 a6 a7
    obtain ⟨⟨a0, a1, a2, a3⟩, ⟨a4, a5, a6, a7⟩⟩ := K.out w7 (btr B2.out B7.out)
    go_wp2_with fail
    refine (HCk.out w7).mono ?_
    rintro e w8 ⟨rfl, hb8⟩
    have B8 : Hid (Below w2.heap.size w2 w8) := btr B7.out hb8
    clear hb8 a0 a1 a2 a3 a4 a5 a6 a7
    obtain ⟨⟨a0, a1, a2, a3⟩, ⟨a4, a5, a6, a7⟩⟩ := K.out w8 (btr B2.out B8.out)
    have hne : (k = k' ∧ n = n' ∧ d = d' ∧ s = s') ∨ ¬ (k = k' ∧ n = n' ∧ d = d' ∧ s = s') := Classical.em _
    rcases hne with ⟨rfl, rfl, rfl, rfl⟩ | hne
    · clear HInj HP1 HP2 HTx HPa HEq HCk HY X2 H1
      generalize prnV k n d s = P at *
      generalize hok : okB k n d s = O at *
      cases O
      · rw [show errB false = 2 from rfl]
        go_wp2_with fail
        refine (HRd.out w8 B8.out).mono ?_
        rintro e w9 ⟨k2, n2, d2, s2, h2, rfl, hr2, hb9⟩
        have B9 : Hid (Below w2.heap.size w2 w9) := btr B8.out hb9
        clear hb9 a0 a1 a2 a3 a4 a5 a6 a7 HRd
        clear hr2
        obtain ⟨W9, hW9, hbw, K9⟩ := kinds_of k2 n2 d2 s2 w9
        have BW : Hid (Below w2.heap.size w2 W9) := btr B9.out hbw
        obtain ⟨⟨a0, a1, a2, a3⟩, ⟨a4, a5, a6, a7⟩⟩ := K.out W9 (btr B2.out BW.out)
        obtain ⟨e0, e1, e2, e3⟩ := K9.out W9 (Below.refl _ _)
        clear hbw
        go_wp2_with fail
        refine (HWk.out W9 (btr HBE.out (btr B2.out BW.out))).mono ?_
        rintro e w10 ⟨rfl, hb10⟩
        have BE : Hid (Below w.heap.size w w10) := btr HBE.out (btr B2.out (btr BW.out hb10))
        clear hb10
        go_wp2
        go_ret
        exact ⟨rfl, BE.out⟩
      · rw [show errB true = 0 from rfl]
        go_wp2_with fail
        refine (HRd.out w8 B8.out).mono ?_
        rintro e w9 ⟨k2, n2, d2, s2, h2, rfl, hr2, hb9⟩
        have B9 : Hid (Below w2.heap.size w2 w9) := btr B8.out hb9
        clear hb9 a0 a1 a2 a3 a4 a5 a6 a7 HRd
        obtain ⟨rfl, rfl, rfl, rfl, rfl⟩ := hr2 (by first | rfl | trivial)
        obtain ⟨W9, hW9, hbw, K9⟩ := kinds_of k2 n2 d2 s2 w9
        have BW : Hid (Below w2.heap.size w2 W9) := btr B9.out hbw
        obtain ⟨⟨a0, a1, a2, a3⟩, ⟨a4, a5, a6, a7⟩⟩ := K.out W9 (btr B2.out BW.out)
        obtain ⟨e0, e1, e2, e3⟩ := K9.out W9 (Below.refl _ _)
        clear hbw
        go_wp2_with fail
        refine (HWk.out W9 (btr HBE.out (btr B2.out BW.out))).mono ?_
        rintro e w10 ⟨rfl, hb10⟩
        have BE : Hid (Below w.heap.size w w10) := btr HBE.out (btr B2.out (btr BW.out hb10))
        clear hb10
        go_wp2
        go_ret
        exact ⟨rfl, BE.out⟩
    · have HNe := Lib.hid hne
      have HPN : Hid (okB k n d s = true → okB k' n' d' s' = true → ((prnV k n d s).toList == (prnV k' n' d' s').toList) = false) := fun h h' => by
        rw [beq_eq_false_iff_ne]
        exact fun e => hne (HInj.out h h' (ba_inj e))
      clear hne HInj HP1 HP2 HTx HPa HEq HCk HY X2 H1
      generalize prnV k n d s = P at *
      generalize prnV k' n' d' s' = P' at *
      generalize okB k n d s = O at *
      generalize okB k' n' d' s' = O' at *
      cases O
      · rw [show errB false = 2 from rfl]
        go_wp2_with fail
        refine (HRd.out w8 B8.out).mono ?_
        rintro e w9 ⟨k2, n2, d2, s2, h2, rfl, hr2, hb9⟩
        have B9 : Hid (Below w2.heap.size w2 w9) := btr B8.out hb9
        clear hb9 a0 a1 a2 a3 a4 a5 a6 a7 HRd
        clear hr2
        obtain ⟨W9, hW9, hbw, K9⟩ := kinds_of k2 n2 d2 s2 w9
        have BW : Hid (Below w2.heap.size w2 W9) := btr B9.out hbw
        obtain ⟨⟨a0, a1, a2, a3⟩, ⟨a4, a5, a6, a7⟩⟩ := K.out W9 (btr B2.out BW.out)
        obtain ⟨e0, e1, e2, e3⟩ := K9.out W9 (Below.refl _ _)
        clear hbw
        go_wp2_with fail
        refine (HWk.out W9 (btr HBE.out (btr B2.out BW.out))).mono ?_
        rintro e w10 ⟨rfl, hb10⟩
        have BE : Hid (Below w.heap.size w w10) := btr HBE.out (btr B2.out (btr BW.out hb10))
        clear hb10
        go_wp2
        go_ret
        exact ⟨rfl, BE.out⟩
      · rw [show errB true = 0 from rfl]
        cases O'
        · rw [show errB false = 2 from rfl]
          go_wp2_with fail
          refine (HRd.out w8 B8.out).mono ?_
          rintro e w9 ⟨k2, n2, d2, s2, h2, rfl, hr2, hb9⟩
          have B9 : Hid (Below w2.heap.size w2 w9) := btr B8.out hb9
          clear hb9 a0 a1 a2 a3 a4 a5 a6 a7 HRd
          obtain ⟨rfl, rfl, rfl, rfl, rfl⟩ := hr2 (by first | rfl | trivial)
          obtain ⟨W9, hW9, hbw, K9⟩ := kinds_of k2 n2 d2 s2 w9
          have BW : Hid (Below w2.heap.size w2 W9) := btr B9.out hbw
          obtain ⟨⟨a0, a1, a2, a3⟩, ⟨a4, a5, a6, a7⟩⟩ := K.out W9 (btr B2.out BW.out)
          obtain ⟨e0, e1, e2, e3⟩ := K9.out W9 (Below.refl _ _)
          clear hbw
          go_wp2_with fail
          refine (HWk.out W9 (btr HBE.out (btr B2.out BW.out))).mono ?_
          rintro e w10 ⟨rfl, hb10⟩
          have BE : Hid (Below w.heap.size w w10) := btr HBE.out (btr B2.out (btr BW.out hb10))
          clear hb10
          go_wp2
          go_ret
          exact ⟨rfl, BE.out⟩
        · rw [show errB true = 0 from rfl]
          have hpn := HPN.out (by first | rfl | trivial) (by first | rfl | trivial)
          go_wp2_with fail
          all_goals
            first
            | (exfalso; exact HNe.out ⟨by assumption, by assumption, by assumption, ba_inj (by assumption)⟩)
            | skip
          all_goals
            clear HNe hpn HPN
            try subst_vars
            refine (HRd.out w8 B8.out).mono ?_
            rintro e w9 ⟨k2, n2, d2, s2, h2, rfl, hr2, hb9⟩
            have B9 : Hid (Below w2.heap.size w2 w9) := btr B8.out hb9
            clear hb9 a0 a1 a2 a3 a4 a5 a6 a7 HRd
            obtain ⟨rfl, rfl, rfl, rfl, rfl⟩ := hr2 (by first | rfl | trivial)
            obtain ⟨W9, hW9, hbw, K9⟩ := kinds_of k2 n2 d2 s2 w9
            have BW : Hid (Below w2.heap.size w2 W9) := btr B9.out hbw
            obtain ⟨⟨a0, a1, a2, a3⟩, ⟨a4, a5, a6, a7⟩⟩ := K.out W9 (btr B2.out BW.out)
            obtain ⟨e0, e1, e2, e3⟩ := K9.out W9 (Below.refl _ _)
            clear hbw
            go_wp2_with fail
            refine (HWk.out W9 (btr HBE.out (btr B2.out BW.out))).mono ?_
            rintro e w10 ⟨rfl, hb10⟩
            have BE : Hid (Below w.heap.size w w10) := btr HBE.out (btr B2.out (btr BW.out hb10))
            clear hb10
            go_wp2
            go_ret
            exact ⟨rfl, BE.out⟩
  · have i1 : ((12 : Int) < (n1 : Int)) = True := by simp; omega
    go_enter Tryz.func5, Tryz.ntmps5
    go_wp2_with fail
    refine (HWk.out _ HBE.out).mono ?_
    rintro e w1 ⟨rfl, hb1⟩
    have HB1 := Lib.hid (btr HBE.out hb1)
    clear hb1
    go_wp2
    go_ret
    exact ⟨rfl, HB1.out⟩
end Go.Proofs.YthcpcaoapkmchaaGreatDoor
end

/- ExactBack: whatever the pairs and the two values, the number that the pairs make is found again from its string, and each valid value from its own: the law returns true. Its row lists package-level variables of Go's library, tied to the program's text by the card. -/
section
namespace Go.Proofs.YthcpcaoapkmchaaGreatDoor
open Go.ChangeShapes Go.WideShapes Go.ChangeAt Go.RowKit

set_option maxRecDepth 100000 in
theorem back_lifted (os : Os) (started : os.Started) (H : Type) (enc : TypeId × Value → H) :
    ReturnsInHanded {} Tryz.checked os 5 .any (fun w args => (Rows.exactBackSpec.pre enc Tryz.prog Tryz.f5 [] false w args ∧ laidMetH Tryz.prog Rows.exactBackRow.laid w) ∧ sizedMet enc Tryz.prog Tryz.f5 (OpenSpec.ofChange Rows.exactBackSpec) false w args)
      (Rows.exactBackSpec.post enc Tryz.prog Tryz.f5 false true false false) := by
  refine handed_laid_shaped (C := Tryz.checked) (X := fun w _ => laidMetH Tryz.prog Rows.exactBackRow.laid w) (fun _ _ _ hh h => h.of_heap hh) own started (by kernel_rfl) Tryz.func5
    (ChangeSpec.witness_shaped (enc := enc) (C := Tryz.checked) (os := os) (X := fun w _ => laidMetH Tryz.prog Rows.exactBackRow.laid w) false (World.laidAll Tryz.prog os Rows.exactBackRow.laid) #[.slice none 0 0, .agg #[.int .i64 0, .int .i64 0, .int .i64 0, .string ⟨#[]⟩], .agg #[.int .i64 0, .int .i64 0, .int .i64 0, .string ⟨#[]⟩]] 8 (World.laidAll_os _ _ _)
      (World.shaped_of_ZipB (by kernel_rfl) (by kernel_rfl)) (by kernel_rfl) (by kernel_rfl) (by kernel_rfl)
      (by rw [MakeChecks.laidMetH_plain _ _ _ (by kernel_rfl)]; exact laidMet_laidAll _ (by kernel_rfl) (by kernel_rfl))) ?_
  intro W base args ds gs before hval0 hW hlaid hsh
  have hval : ∀ (j : Nat) t v, Tryz.f5.params[j]? = some t → args[j]? = some v → Value.okWide Tryz.prog W .any base t v := hval0
  have htab : Tab W := by
    rw [MakeChecks.laidMetH_plain _ _ _ (by kernel_rfl)] at hlaid
    exact tab_of hlaid
  have hW' := hW
  obtain ⟨p, q, hA0, hV, rfl, _, _⟩ := hW
  have hA : DataW.TrodAll enc Tryz.prog W 0 (fun _ => true) true Tryz.f5.params.toList args.toList ds p := hA0
  rw [Tryz.params5] at hA hval
  obtain ⟨v0, v1, v2, d0, d1, d2, p0, p1, p2, rfl, rfl, rfl, h0, h1, h2⟩ := trodAll_three hA
  obtain ⟨rfl, rfl⟩ := trodVars_none hV
  obtain ⟨A, n1, c1, rfl⟩ := okWide_slice Tryz.underlying41 (hval 0 41 v0 rfl rfl)
  obtain ⟨k, n, d, s, rfl, hs⟩ := open_valA (hval 1 43 v1 rfl rfl) h1
  obtain ⟨k', n', d', s', rfl, hs'⟩ := open_valA (hval 2 43 v2 rfl rfl) h2
  clear hA0 hval0
  simp only [List.append_nil] at hW'
  obtain ⟨m, hm⟩ := maxLen_cell hsh
  have hlt0 : ∀ x ∈ p0, x.block < W.heap.size := fun x hx => hW'.lt x (by simp [hx])
  have hlt1 : ∀ x ∈ p1, x.block < W.heap.size := fun x hx => hW'.lt x (by simp [hx])
  have hlt2 : ∀ x ∈ p2, x.block < W.heap.size := fun x hx => hW'.lt x (by simp [hx])
  have k0 := h0
  obtain ⟨_, f0⟩ := h0
  obtain ⟨t1, s1, P1⟩ := open_pairs Tryz.underlying41 Tryz.underlying94 Tryz.underlying2 cellsPair cellsI64 f0
  refine (l_back W A n1 c1 t1 s1 P1 k n d s k' n' d' s' m htab hm).mono fun e W' ⟨he, hb⟩ => ?_
  subst he
  have tr := fun {v : Value} {d : DataW H} {ps : List MemPlace} (h : DataW.Trod enc Tryz.prog W 0 (fun _ => true) true 43 v d ps) (hlt : ∀ x ∈ ps, x.block < W.heap.size) =>
    Below.trod laidOut' (t := 43) (by kernel_rfl) (of_decide_eq_true (by kernel_rfl)) h hb hlt
  have tr0 := fun {v : Value} {d : DataW H} {ps : List MemPlace} (h : DataW.Trod enc Tryz.prog W 0 (fun _ => true) true 41 v d ps) (hlt : ∀ x ∈ ps, x.block < W.heap.size) =>
    Below.trod laidOut' (t := 41) (by kernel_rfl) (of_decide_eq_true (by kernel_rfl)) h hb hlt
  exact ⟨_, rfl, ⟨_, _, _, [], _, [], hW', trodAll_mk1 (shut_bool Tryz.underlying4 _), trodAll_mk3 (tr0 k0 hlt0) (tr h1 hlt1) (tr h2 hlt2), rfl, hb.frame _, fun h => by cases h⟩⟩

theorem back_row : Rows.ExactBackSaid :=
  OpenClaim.holds_of_wide 5 Tryz.f5 rfl rfl rfl rfl rfl rfl rfl ⟨rfl, rfl, rfl, rfl, rfl⟩ rfl rfl rfl rfl rfl (by kernel_rfl) Tryz.func5 (by kernel_rfl)
    (of_decide_eq_true (by kernel_rfl)) (by unfold Func.isWrapper; first | (rw [if_pos (by decide +kernel)]; kernel_rfl) | (rw [if_neg (by decide +kernel)]; exact ⟨rfl, rfl⟩))
    (fun os started H enc _ => back_lifted os started H enc)

theorem back_card : Rows.ExactBackCardSaid :=
  Claim7.holds_tied_plain_at .later [] Rows.exactBackCard.laidKinds true Rows.exactBackCard.stood.harness true
    back_row (fun _ h => by cases h) (by kernel_rfl) (fun _ h => by cases h) exactBack_row_tie rfl ⟨rfl, rfl⟩ (by kernel_rfl) rfl
    (fun f fn hf hfn => by
      obtain rfl : f = 5 := Option.some.inj ((show Tryz.prog.funcNamed "tesseract/tesseractlaw01.ExactBack" = some 5 by kernel_rfl).symm.trans hf) |>.symm
      obtain rfl : fn = Tryz.f5 := (Option.some.inj (Tryz.func5.symm.trans hfn)).symm
      exact ⟨by kernel_rfl, fun j t ht => by
        rw [Tryz.params5] at ht
        have hin : t ∈ [41, 43] := by have := Array.mem_of_getElem? ht; simpa using this
        have hall : ([41, 43].all fun u => !Tryz.prog.wantsStandIn u) = true := by kernel_rfl
        exact (show Tryz.prog.wantsStandIn t = false by simpa using List.all_eq_true.1 hall t hin)⟩)
    (by kernel_rfl)
end Go.Proofs.YthcpcaoapkmchaaGreatDoor
end
