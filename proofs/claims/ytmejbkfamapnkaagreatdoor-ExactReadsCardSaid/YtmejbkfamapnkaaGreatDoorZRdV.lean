/- The value of any number, and the number of any value. -/
import Derived.Test.YtmejbkfamapnkaaGreatDoorZRatV
import Derived.Test.YtmejbkfamapnkaaGreatDoorZNum
import Derived.Lib.Replace
import Derived.Lib.CountLaws
import Derived.Test.YtmejbkfamapnkaaGreatDoorZInv
import Derived.Test.YtmejbkfamapnkaaGreatDoorZFmt
import Derived.Test.YtmejbkfamapnkaaGreatDoorZOrd
import Derived.Test.YtmejbkfamapnkaaGreatDoorShelf
import Derived.Test.YtmejbkfamapnkaaGreatDoorZRead

/- The value of any number, and the number of any value. -/
section
namespace Go.Proofs.YtmejbkfamapnkaaGreatDoor
open Go Go.RowKit Go.Deep

instance instLow (n d : Int) : Decidable (Low n d) := by unfold Low; infer_instance
/-- The number of a value. -/
def qV (n d : Int) : Rat := if h : Low n d then ⟨n, d.natAbs, by have := h.2.2.1; omega, h.2.2.2.2⟩ else 0
theorem qV_num {n d : Int} (h : Low n d) : (qV n d).num = n := by unfold qV; rw [dif_pos h]
theorem qV_den {n d : Int} (h : Low n d) : (qV n d).den = d.natAbs := by unfold qV; rw [dif_pos h]
theorem sgn_num (n : Int) : sgn (decide (n < 0)) n.natAbs = decide (n < 0) := by
  unfold sgn
  by_cases h : n < 0
  · rw [decide_eq_true h, Bool.true_and, decide_eq_true_iff]; omega
  · rw [decide_eq_false h]; rfl
theorem v_rat (w : World) (n d : Int) (h : Low n d) : Calls Tryz.prog 62 #[V 2 n d noS] w (RatVRet w (qV n d)) := by
  refine (c_rat w n d h).mono ?_
  rintro e w' ⟨u, rfl, hu, hb⟩
  exact ⟨u, rfl, hu.toV (by rw [qV_num h, sgn_num]) (by rw [qV_num h]) (by rw [qV_den h]), hb⟩
theorem ratW_qV {n d : Int} (h : Low n d) : RatW (qV n d) 1 := by
  have h1 := qV_num h
  have h2 := qV_den h
  obtain ⟨a, b, c, e, _⟩ := h
  refine ⟨?_, ?_⟩
  · rw [h1, nw_le_one]; unfold W64; omega
  · rw [h2, nw_le_one]; unfold W64; omega

def Small (q : Rat) : Prop := q.num.natAbs ≤ 1099511627776 ∧ q.den ≤ 1099511627776
instance (q : Rat) : Decidable (Small q) := by unfold Small; infer_instance
def valK (q : Rat) : Int := if Small q then 2 else 0
def valN (q : Rat) : Int := if Small q then q.num else 2
def valD (q : Rat) : Int := if Small q then q.den else 0
theorem low_small {q : Rat} (h : Small q) : Low q.num q.den := by
  have := q.den_pos
  exact ⟨by have := h.1; omega, by have := h.1; omega, by omega, by have := h.2; omega, by rw [Int.natAbs_natCast]; exact q.reduced⟩
theorem val_good (q : Rat) : Good (valK q) (valN q) (valD q) noS := by
  unfold valK valN valD
  by_cases h : Small q
  · rw [if_pos h, if_pos h, if_pos h]; exact .num _ _ (low_small h)
  · rw [if_neg h, if_neg h, if_neg h]; exact .missing 2 (by omega) (by omega)

theorem nat_at0 {w : World} {v : Value} {x : Nat} (h : NatAt w v x) (hx : 0 < x) : ∃ A c b o, v = .slice A (nw x) c ∧ A = some ⟨b, o, none⟩ ∧ b < w.heap.size ∧ w.cell? ⟨b, o, none⟩ = some (U (dig x 0)) := by
  obtain ⟨A, c, rfl, _, _, h3⟩ := h
  obtain ⟨b, o, e1, e2, e3⟩ := h3 ((nw_pos x).2 hx)
  exact ⟨A, c, b, o, rfl, e1, e2, by have := e3 0 ((nw_pos x).2 hx); rwa [Nat.add_zero] at this⟩

theorem row_v {X : World} {b : Nat} {k n d : Int} {s : ByteArray} (h : X.heap[b]? = some (.cells #[.int .i64 k, .int .i64 n, .int .i64 d, .string s] 24 (0, 0))) :
    X.cell? ⟨b, 0, none⟩ = some (.int .i64 k) ∧ X.cell? ⟨b, 1, none⟩ = some (.int .i64 n) ∧ X.cell? ⟨b, 2, none⟩ = some (.int .i64 d) ∧ X.cell? ⟨b, 3, none⟩ = some (.string s) := by
  refine ⟨?_, ?_, ?_, ?_⟩ <;> (rw [cell_of_row _ _ _ _ _ _ h]; rfl)

set_option maxRecDepth 100000 in
set_option maxHeartbeats 4000000 in
theorem v_Value (w : World) (x : Value) (q : Rat) (h : RatV w x q) :
    Calls Tryz.prog 69 #[x] w fun e w' => e = .returned (V (valK q) (valN q) (valD q) noS) ∧ Below w.heap.size w w' := by
  have HV := Lib.hid (fun W (hW : Below w.heap.size w W) => c_valid W x _ _ _ (h.below hW))
  have hd0 := q.den_pos
  have hsg := Int.natAbs_natCast
  obtain ⟨b, nv, dv, rfl, hlt, _, c1, c2, c3, hn, hd⟩ := h
  have HN := Lib.hid hn
  obtain ⟨A, c, rfl, _, _, _⟩ := hn
  obtain ⟨A', c', bd, od, rfl, rfl, hbd, cd⟩ := nat_at0 hd hd0
  clear hd hsg
  have HR0 := Lib.hid (heap_alloc_new w (.cells #[.int .i64 0, .int .i64 0, .int .i64 0, .string ⟨#[]⟩] 24))
  have HC : Hid (∀ W, Below w.heap.size w W → W.cell? ⟨b, 1, none⟩ = some (.bool (decide (q.num < 0))) ∧ W.cell? ⟨b, 2, none⟩ = some (.slice A (nw q.num.natAbs) c) ∧ W.cell? ⟨b, 3, none⟩ = some (.slice (some ⟨bd, od, none⟩) (nw q.den) c') ∧ W.cell? ⟨bd, od, none⟩ = some (U (dig q.den 0))) := fun W hW =>
    ⟨(hW.cell (p := ⟨b, 1, none⟩) hlt).trans c1, (hW.cell (p := ⟨b, 2, none⟩) hlt).trans c2, (hW.cell (p := ⟨b, 3, none⟩) hlt).trans c3, (hW.cell (p := ⟨bd, od, none⟩) hbd).trans cd⟩
  have HA : Hid (∀ W, Below w.heap.size w W → Calls Tryz.prog 103 #[.slice A (nw q.num.natAbs) c, .int .i64 0] W fun e w' => e = .returned (U (dig q.num.natAbs 0)) ∧ W = w') := fun W hW => n_at W (.slice A (nw q.num.natAbs) c) q.num.natAbs 0 (HN.out.below hW)
  clear c1 c2 c3 cd HN hbd
  by_cases hs : Small q
  · rw [show valK q = 2 from if_pos hs, show valN q = q.num from if_pos hs, show valD q = q.den from if_pos hs]
    obtain ⟨s1, s2⟩ := hs
    have n1 : nw q.num.natAbs ≤ 1 := (nw_le_one _).2 (by unfold W64; omega)
    have n2 : nw q.den = 1 := nw_one _ hd0 (by unfold W64; omega)
    rw [dig_small _ (show q.num.natAbs < W64 by unfold W64; omega)] at HA
    rw [dig_small _ (show q.den < W64 by unfold W64; omega), n2] at HC
    clear n2
    generalize nw q.num.natAbs = m at *
    have hnum : (decide (q.num < 0) = true ∧ q.num = -(q.num.natAbs : Int)) ∨ (decide (q.num < 0) = false ∧ q.num = (q.num.natAbs : Int)) := by
      by_cases h9 : q.num < 0
      · exact .inl ⟨decide_eq_true h9, by omega⟩
      · exact .inr ⟨decide_eq_false h9, by omega⟩
    generalize q.num.natAbs = n at *
    generalize q.den = d at *
    generalize decide (q.num < 0) = sg at *
    generalize q.num = qn at *
    go_enter Tryz.func69, Tryz.ntmps69
    go_wp2_with fail
    generalize HW : w.alloc (.cells #[.int .i64 0, .int .i64 0, .int .i64 0, .string ⟨#[]⟩] 24) = W0 at *
    have B0 : Below w.heap.size w W0 := by rw [← HW]; exact (Below.refl _ _).alloc (Nat.le_refl _) _
    have hz0 : w.heap.size < W0.heap.size := by rw [← HW]; simp
    clear HW
    refine (HV.out _ B0).mono ?_
    rintro e w' ⟨rfl, rfl⟩
    obtain ⟨c1, c2, c3, cd⟩ := HC.out _ B0
    clear HV
    go_wp2_with fail
    refine (HA.out _ B0).mono ?_
    rintro e w' ⟨rfl, rfl⟩
    go_wp2_with fail
    have HK : Hid (∀ W, Below W0.heap.size W0 W → W.cell? ⟨b, 2, none⟩ = some (.slice A m c) ∧ W.cell? ⟨b, 3, none⟩ = some (.slice (some ⟨bd, od, none⟩) 1 c') ∧ W.cell? ⟨bd, od, none⟩ = some (U d)) := fun W hW => (HC.out W (btr B0 hW)).2
    have HA2 : Hid (∀ W, Below W0.heap.size W0 W → Calls Tryz.prog 103 #[.slice A m c, .int .i64 0] W fun e w' => e = .returned (U n) ∧ W = w') := fun W hW => HA.out W (btr B0 hW)
    have B1 : Below W0.heap.size W0 W0.drew := Below.drew (Below.refl _ _)
    have H1 : Hid (∀ W, Below W0.heap.size W0 W → W.cell? ⟨b, 1, none⟩ = some (.bool sg)) := fun W hW => (HC.out W (btr B0 hW)).1
    have e1 : IntKind.i64.wrap (n : Int) = n := by rw [IntKind.wrap_i64]; omega
    have e2 : IntKind.i64.wrap (d : Int) = d := by rw [IntKind.wrap_i64]; omega
    clear c1 c2 c3 cd HC HA
    go_region_held3 (fun w' => w'.cell? ⟨b, 2, none⟩ = some (.slice A m c) ∧ w'.cell? ⟨b, 3, none⟩ = some (.slice (some ⟨bd, od, none⟩) 1 c') ∧ w'.cell? ⟨bd, od, none⟩ = some (U d))
      (first | exact HK.out _ B1 | exact HK.out _ (B1.alloc (Nat.le_refl _) _) | exact HK.out _ (Below.refl _ _))
      (first
        | (go_at_call 103; refine (HA2.out _ (by first | exact B1 | exact B1.alloc (Nat.le_refl _) _)).mono ?_; rintro e w' ⟨rfl, rfl⟩))
    all_goals

      have hv := heap_alloc_new W0 (.cells #[.int .i64 2, .int .i64 n, .int .i64 d, .string ⟨#[]⟩] 24)
      have bV : Below W0.heap.size W0 (W0.alloc (.cells #[.int .i64 2, .int .i64 n, .int .i64 d, .string ⟨#[]⟩] 24)).drew := Below.drew ((Below.refl _ _).alloc (Nat.le_refl _) _)
      have hv' : (W0.alloc (.cells #[.int .i64 2, .int .i64 n, .int .i64 d, .string ⟨#[]⟩] 24)).drew.heap[W0.heap.size]? = some (.cells #[.int .i64 2, .int .i64 n, .int .i64 d, .string ⟨#[]⟩] 24 (0, 0)) := hv
      clear hv
      generalize (W0.alloc (.cells #[.int .i64 2, .int .i64 n, .int .i64 d, .string ⟨#[]⟩] 24)).drew = X at *
      obtain ⟨r0, r1, r2, r3⟩ := row_v hv'
      have q1 := H1.out _ bV
      have f1 : X.frozen? ⟨W0.heap.size, 1, none⟩ = false := by simp [World.frozen?, hv']
      have hr := (bV.block _ hz0).trans HR0.out
      rcases hnum with ⟨rfl, rfl⟩ | ⟨rfl, rfl⟩
      · have hr' : (X.setCell ⟨W0.heap.size, 1, none⟩ (.int .i64 (-(n : Int)))).heap[w.heap.size]? = some (.cells #[.int .i64 0, .int .i64 0, .int .i64 0, .string ⟨#[]⟩] 24 (0, 0)) := (Below.heap_setCell X ⟨W0.heap.size, 1, none⟩ _ _ (by show w.heap.size ≠ W0.heap.size; omega)).trans hr
        obtain ⟨t0, t1, t2, t3, g0, g1, g2, g3⟩ := res_at hr'
        have HR := Lib.hid hr'
        have BX : Hid (Below w.heap.size w (X.setCell ⟨W0.heap.size, 1, none⟩ (.int .i64 (-(n : Int))))) := (btr B0 bV).setCell (p := ⟨W0.heap.size, 1, none⟩) (by show w.heap.size ≤ W0.heap.size; omega) _
        clear hr hr' hv' bV
        go_wp2
        exact bodyPost_ret (v := V 2 (-(n : Int)) d noS) (results_cell_row Tryz.results69 _ _ w.heap.size 24 _ (0, 0) _ rfl (put4 HR.out _ _ _ _) Tryz.underlying24 rfl (by rw [info_v4]; rfl)) rfl ⟨rfl, below4 BX.out _ (Nat.le_refl _) _ _ _ _⟩
      · obtain ⟨t0, t1, t2, t3, g0, g1, g2, g3⟩ := res_at hr
        have HR := Lib.hid hr
        have BX : Hid (Below w.heap.size w X) := btr B0 bV
        clear hr hv' bV
        go_wp2
        exact bodyPost_ret (v := V 2 (n : Int) d noS) (results_cell_row Tryz.results69 _ _ w.heap.size 24 _ (0, 0) _ rfl (put4 HR.out _ _ _ _) Tryz.underlying24 rfl (by rw [info_v4]; rfl)) rfl ⟨rfl, below4 BX.out _ (Nat.le_refl _) _ _ _ _⟩
  · rw [show valK q = 0 from if_neg hs, show valN q = 2 from if_neg hs, show valD q = 0 from if_neg hs]
    by_cases m1 : nw q.num.natAbs ≤ 1
    · by_cases m2 : nw q.den ≤ 1
      · have n2 : nw q.den = 1 := nw_one _ hd0 ((nw_le_one _).1 m2)
        rw [dig_small _ ((nw_le_one _).1 m1)] at HA
        rw [dig_small _ ((nw_le_one _).1 m2), n2] at HC
        have w1 := (nw_le_one _).1 m1
        have w2 := (nw_le_one _).1 m2
        by_cases h1 : q.num.natAbs ≤ 1099511627776
        · have h2 : (1099511627776 : Int) < (q.den : Int) := by
            have : ¬ q.den ≤ 1099511627776 := fun h9 => hs ⟨h1, h9⟩
            omega
          clear hs n2 m2 w1 w2
          generalize nw q.num.natAbs = m at *
          generalize q.num.natAbs = n at *
          generalize q.den = d at *
          generalize decide (q.num < 0) = sg at *
          go_enter Tryz.func69, Tryz.ntmps69
          go_wp2_with fail
          generalize HW : w.alloc (.cells #[.int .i64 0, .int .i64 0, .int .i64 0, .string ⟨#[]⟩] 24) = W0 at *
          have B0 : Below w.heap.size w W0 := by rw [← HW]; exact (Below.refl _ _).alloc (Nat.le_refl _) _
          have hz0 : w.heap.size < W0.heap.size := by rw [← HW]; simp
          clear HW
          refine (HV.out _ B0).mono ?_
          rintro e w' ⟨rfl, rfl⟩
          obtain ⟨c1, c2, c3, cd⟩ := HC.out _ B0
          clear HV c1
          go_wp2_with fail
          refine (HA.out _ B0).mono ?_
          rintro e w' ⟨rfl, rfl⟩
          clear HA HC
          go_wp2_with fail
          refine (c_missing 2 _).mono ?_
          rintro e w1 ⟨rfl, hb1⟩
          have hh1 := (hb1.block _ hz0).trans HR0.out
          obtain ⟨r0, r1, r2, r3, f0, f1, f2, f3⟩ := res_at hh1
          have HH1 := Lib.hid hh1
          clear hh1 c2 c3 cd
          go_wp2
          exact bodyPost_ret (v := V 0 2 0 noS) (results_cell_row Tryz.results69 _ _ w.heap.size 24 _ (0, 0) _ rfl (put4 HH1.out _ _ _ _) Tryz.underlying24 rfl (by rw [info_v4]; rfl)) rfl ⟨rfl, below4 (btr B0 hb1) _ (Nat.le_refl _) _ _ _ _⟩
        · have h2 : (1099511627776 : Int) < (q.num.natAbs : Int) := by omega
          clear hs n2 m2 w1 w2 h1
          generalize nw q.num.natAbs = m at *
          generalize q.num.natAbs = n at *
          generalize q.den = d at *
          generalize decide (q.num < 0) = sg at *
          go_enter Tryz.func69, Tryz.ntmps69
          go_wp2_with fail
          generalize HW : w.alloc (.cells #[.int .i64 0, .int .i64 0, .int .i64 0, .string ⟨#[]⟩] 24) = W0 at *
          have B0 : Below w.heap.size w W0 := by rw [← HW]; exact (Below.refl _ _).alloc (Nat.le_refl _) _
          have hz0 : w.heap.size < W0.heap.size := by rw [← HW]; simp
          clear HW
          refine (HV.out _ B0).mono ?_
          rintro e w' ⟨rfl, rfl⟩
          obtain ⟨c1, c2, c3, cd⟩ := HC.out _ B0
          clear HV c1
          go_wp2_with fail
          refine (HA.out _ B0).mono ?_
          rintro e w' ⟨rfl, rfl⟩
          clear HA HC
          go_wp2_with fail
          refine (c_missing 2 _).mono ?_
          rintro e w1 ⟨rfl, hb1⟩
          have hh1 := (hb1.block _ hz0).trans HR0.out
          obtain ⟨r0, r1, r2, r3, f0, f1, f2, f3⟩ := res_at hh1
          have HH1 := Lib.hid hh1
          clear hh1 c2 c3 cd
          go_wp2
          exact bodyPost_ret (v := V 0 2 0 noS) (results_cell_row Tryz.results69 _ _ w.heap.size 24 _ (0, 0) _ rfl (put4 HH1.out _ _ _ _) Tryz.underlying24 rfl (by rw [info_v4]; rfl)) rfl ⟨rfl, below4 (btr B0 hb1) _ (Nat.le_refl _) _ _ _ _⟩
      · have h2 : (1 : Int) < (nw q.den : Int) := by omega
        clear hs m2
        generalize nw q.num.natAbs = m at *
        generalize nw q.den = m' at *
        generalize dig q.num.natAbs 0 = n at *
        generalize dig q.den 0 = d at *
        generalize decide (q.num < 0) = sg at *
        go_enter Tryz.func69, Tryz.ntmps69
        go_wp2_with fail
        generalize HW : w.alloc (.cells #[.int .i64 0, .int .i64 0, .int .i64 0, .string ⟨#[]⟩] 24) = W0 at *
        have B0 : Below w.heap.size w W0 := by rw [← HW]; exact (Below.refl _ _).alloc (Nat.le_refl _) _
        have hz0 : w.heap.size < W0.heap.size := by rw [← HW]; simp
        clear HW
        refine (HV.out _ B0).mono ?_
        rintro e w' ⟨rfl, rfl⟩
        obtain ⟨c1, c2, c3, cd⟩ := HC.out _ B0
        clear HV c1
        clear HA HC
        go_wp2_with fail
        refine (c_missing 2 _).mono ?_
        rintro e w1 ⟨rfl, hb1⟩
        have hh1 := (hb1.block _ hz0).trans HR0.out
        obtain ⟨r0, r1, r2, r3, f0, f1, f2, f3⟩ := res_at hh1
        have HH1 := Lib.hid hh1
        clear hh1 c2 c3 cd
        go_wp2
        exact bodyPost_ret (v := V 0 2 0 noS) (results_cell_row Tryz.results69 _ _ w.heap.size 24 _ (0, 0) _ rfl (put4 HH1.out _ _ _ _) Tryz.underlying24 rfl (by rw [info_v4]; rfl)) rfl ⟨rfl, below4 (btr B0 hb1) _ (Nat.le_refl _) _ _ _ _⟩
    · have h2 : (1 : Int) < (nw q.num.natAbs : Int) := by omega
      clear hs m1
      generalize nw q.num.natAbs = m at *
      generalize nw q.den = m' at *
      generalize dig q.num.natAbs 0 = n at *
      generalize dig q.den 0 = d at *
      generalize decide (q.num < 0) = sg at *
      go_enter Tryz.func69, Tryz.ntmps69
      go_wp2_with fail
      generalize HW : w.alloc (.cells #[.int .i64 0, .int .i64 0, .int .i64 0, .string ⟨#[]⟩] 24) = W0 at *
      have B0 : Below w.heap.size w W0 := by rw [← HW]; exact (Below.refl _ _).alloc (Nat.le_refl _) _
      have hz0 : w.heap.size < W0.heap.size := by rw [← HW]; simp
      clear HW
      refine (HV.out _ B0).mono ?_
      rintro e w' ⟨rfl, rfl⟩
      obtain ⟨c1, c2, c3, cd⟩ := HC.out _ B0
      clear HV c1
      clear HA HC
      go_wp2_with fail
      refine (c_missing 2 _).mono ?_
      rintro e w1 ⟨rfl, hb1⟩
      have hh1 := (hb1.block _ hz0).trans HR0.out
      obtain ⟨r0, r1, r2, r3, f0, f1, f2, f3⟩ := res_at hh1
      have HH1 := Lib.hid hh1
      clear hh1 c2 c3 cd
      go_wp2
      exact bodyPost_ret (v := V 0 2 0 noS) (results_cell_row Tryz.results69 _ _ w.heap.size 24 _ (0, 0) _ rfl (put4 HH1.out _ _ _ _) Tryz.underlying24 rfl (by rw [info_v4]; rfl)) rfl ⟨rfl, below4 (btr B0 hb1) _ (Nat.le_refl _) _ _ _ _⟩
end Go.Proofs.YtmejbkfamapnkaaGreatDoor
end

/- Plain lists of bytes: a text with its quotes doubled. No condition. -/
section
namespace Go.Proofs.YtmejbkfamapnkaaGreatDoor
/-- A text with each of its quotes twice. -/
def quo : List UInt8 → List UInt8
  | [] => []
  | b :: l => (if b = 39 then [39, 39] else [b]) ++ quo l
theorem index_cons (b : UInt8) (l : List UInt8) : Lib.index (b :: l) [39] = if b = 39 then 0 else if Lib.index l [39] == -1 then -1 else Lib.index l [39] + 1 := by
  rw [Lib.index]
  by_cases h : b = 39
  · subst h
    simp [List.isPrefixOf]
  · have h1 : ([39] : List UInt8).isPrefixOf (b :: l) = false := by
      simp [List.isPrefixOf]
      exact fun e => h e.symm
    rw [h1, if_neg h]
    rfl
theorem count_quote (b : UInt8) (l : List UInt8) : Lib.count (b :: l) [39] = (if b = 39 then 1 else 0) + Lib.count l [39] := by
  by_cases h : b = 39
  · subst h
    rw [Lib.count_hit (i := 0) (by simp) (by rw [index_cons, if_pos rfl]; rfl), if_pos rfl]
    rfl
  · rw [if_neg h, Nat.zero_add]
    by_cases hm : Lib.index l [39] = -1
    · rw [Lib.count_miss hm, Lib.count_miss]
      rw [index_cons, if_neg h, hm]
      rfl
    · have hge := Lib.index_ge l [39]
      obtain ⟨i, hi⟩ : ∃ i : Nat, Lib.index l [39] = i := ⟨(Lib.index l [39]).toNat, by omega⟩
      have h2 : Lib.index (b :: l) [39] = ((i + 1 : Nat) : Int) := by
        rw [index_cons, if_neg h, if_neg (by rw [beq_iff_eq]; exact hm), hi]; omega
      rw [Lib.count_hit (by simp) h2, Lib.count_hit (by simp) hi]
      rfl
theorem count_quote_le : ∀ l : List UInt8, Lib.count l [39] ≤ l.length
  | [] => by rw [Lib.count_miss (by rfl)]; exact Nat.zero_le _
  | b :: l => by
    rw [count_quote, List.length_cons]
    have := count_quote_le l
    split <;> omega
theorem replaceK_quo : ∀ l : List UInt8, Lib.replaceK [39] [39, 39] (Lib.count l [39]) l = quo l
  | [] => by rw [Lib.count_miss (by rfl)]; rfl
  | b :: l => by
    have ih := replaceK_quo l
    rw [count_quote]
    by_cases h : b = 39
    · subst h
      rw [if_pos rfl, Nat.add_comm, Lib.replaceK_hit _ _ _ _ 0 (by rw [index_cons, if_pos rfl]; rfl)]
      show [] ++ [39, 39] ++ Lib.replaceK [39] [39, 39] (Lib.count l [39]) l = _
      rw [ih]; rfl
    · rw [if_neg h, Nat.zero_add]
      have hq : quo (b :: l) = b :: quo l := by rw [quo, if_neg h]; rfl
      rw [hq, ← ih]
      rcases hc : Lib.count l [39] with _ | k
      · rfl
      · obtain ⟨i, hi⟩ := Lib.index_of_count (s := l) (old := [39]) (by omega)
        have hm : Lib.index l [39] ≠ -1 := by omega
        have h2 : Lib.index (b :: l) [39] = ((i + 1 : Nat) : Int) := by
          rw [index_cons, if_neg h, if_neg (by rw [beq_iff_eq]; exact hm), hi]; omega
        rw [Lib.replaceK_hit _ _ _ _ (i + 1) h2, Lib.replaceK_hit _ _ _ _ i hi]
        rfl
theorem replaceAll_quo (l : List UInt8) : Lib.replaceAll l [39] [39, 39] = quo l := by
  have h1 : Lib.replaceNum l [39] (-1) = Lib.count l [39] := by unfold Lib.replaceNum; rw [if_pos (.inl (by decide))]
  unfold Lib.replaceAll Lib.replace
  rw [if_neg (by decide), h1, replaceK_quo]
theorem quo_length : ∀ l : List UInt8, (quo l).length ≤ 2 * l.length
  | [] => Nat.le_refl _
  | b :: l => by
    have := quo_length l
    rw [quo, List.length_append, List.length_cons]
    split <;> simp <;> omega
end Go.Proofs.YtmejbkfamapnkaaGreatDoor
end

/- What Check and Print return of a value; the variables of values. -/
section
namespace Go.Proofs.YtmejbkfamapnkaaGreatDoor
open Go.RowKit Go.Deep

def errB (b : Bool) : Int := if b then 0 else 2
theorem ret_two {a b : ByteArray} {c : Int} (h : a = b) : Ending.returned (.tuple #[.string a, .int .i64 c]) = .returned (.tuple #[.string b, .int .i64 c]) := by rw [h]
/-- What Print returns of a value. -/
def prnV (k n d : Int) (s : ByteArray) : ByteArray :=
  if okB k n d s = true then if k = 0 then ⟨(63 :: Lib.decDigits n.toNat).toArray⟩ else if k = 1 then (if n = 1 then ⟨#[116, 114, 117, 101]⟩ else ⟨#[102, 97, 108, 115, 101]⟩) else if k = 2 then ⟨(txt (qV n d)).toArray⟩ else ⟨(39 :: quo s.data.toList ++ [39]).toArray⟩ else ⟨#[]⟩
/-- The variable of a result that is a value, as the call begins. -/
theorem valz_box (w : World) : ∃ W, w.alloc (.cells #[.int .i64 0, .int .i64 0, .int .i64 0, .string ⟨#[]⟩] 24) = W ∧ Below w.heap.size w W ∧ W.heap.size = w.heap.size + 1 ∧
    Hid (∀ W', Below W.heap.size W W' → W'.heap[w.heap.size]? = some (.cells #[.int .i64 0, .int .i64 0, .int .i64 0, .string ⟨#[]⟩] 24 (0, 0))) := by
  refine ⟨_, rfl, (Below.refl _ _).alloc (Nat.le_refl _) _, by simp, fun W' hW => ?_⟩
  exact (hW.block _ (by simp)).trans (heap_alloc_new w _)

theorem vals_box (w : World) (k n d : Int) (s : ByteArray) (k' n' d' : Int) (s' : ByteArray) : ∃ W0 W1, w.alloc (.cells #[.int .i64 k, .int .i64 n, .int .i64 d, .string s] 24) = W0 ∧ W0.alloc (.cells #[.int .i64 k', .int .i64 n', .int .i64 d', .string s'] 24) = W1 ∧ W0.heap.size = w.heap.size + 1 ∧ Below w.heap.size w W1 ∧
    Hid (∀ W', Below W1.heap.size W1 W' → (W'.cell? ⟨w.heap.size, 0, none⟩ = some (.int .i64 k) ∧ W'.cell? ⟨w.heap.size, 1, none⟩ = some (.int .i64 n) ∧ W'.cell? ⟨w.heap.size, 2, none⟩ = some (.int .i64 d) ∧ W'.cell? ⟨w.heap.size, 3, none⟩ = some (.string s)) ∧
      (W'.cell? ⟨w.heap.size + 1, 0, none⟩ = some (.int .i64 k') ∧ W'.cell? ⟨w.heap.size + 1, 1, none⟩ = some (.int .i64 n') ∧ W'.cell? ⟨w.heap.size + 1, 2, none⟩ = some (.int .i64 d') ∧ W'.cell? ⟨w.heap.size + 1, 3, none⟩ = some (.string s'))) := by
  obtain ⟨W, b, b', hW, hb, hb', hlt, hbel, K⟩ := two_box w k n d s k' n' d' s'
  subst hb hb'
  exact ⟨_, W, rfl, hW, by simp, hbel, K⟩

end Go.Proofs.YtmejbkfamapnkaaGreatDoor
end

/- The program's Number, Check and Print, whatever the value. -/
section
namespace Go.Proofs.YtmejbkfamapnkaaGreatDoor
open Go.RowKit Go.Deep

set_option maxHeartbeats 1000000 in
theorem c_FormatInt (n : Nat) (w : World) (h1 : n ≤ 255) (htab : Tab w) :
    Calls Tryz.prog 60 #[.int .i64 n, .int .i64 10] w fun e w' => e = .returned (.string ⟨(Lib.decDigits n).toArray⟩) ∧ Below w.heap.size w w' := by
  have HS : Hid (Calls Tryz.prog 116 #[.int .i64 n, .int .i64 10] w fun e w' => e = .returned (.string ⟨(Lib.decDigits n).toArray⟩) ∧ Below w.heap.size w w') := by
    refine (Tryz.internal_strconv_FormatInt_10 (n : Int) (by omega) (by omega) w htab).mono ?_
    rintro e w' ⟨rfl, k, os, rfl⟩
    refine ⟨?_, Lib.below_grow w.heap.size w (Nat.le_refl _) k os⟩
    rw [show Lib.itoa (n : Int) = Lib.decDigits n by unfold Lib.itoa; rw [if_neg (by omega), Int.toNat_natCast]]
  clear htab
  go_enter Tryz.func60, Tryz.ntmps60
  go_wp2_with fail
  refine HS.out.mono ?_
  rintro e w' ⟨rfl, hb⟩
  go_wp2
  go_ret
  exact ⟨rfl, hb⟩

theorem kinds_of (k n d : Int) (s : ByteArray) (w : World) : ∃ W, w.alloc (.cells #[.int .i64 k, .int .i64 n, .int .i64 d, .string s] 24) = W ∧ Below w.heap.size w W ∧
    Hid (∀ W', Below W.heap.size W W' → W'.cell? ⟨w.heap.size, 0, none⟩ = some (.int .i64 k) ∧ W'.cell? ⟨w.heap.size, 1, none⟩ = some (.int .i64 n) ∧ W'.cell? ⟨w.heap.size, 2, none⟩ = some (.int .i64 d) ∧ W'.cell? ⟨w.heap.size, 3, none⟩ = some (.string s)) := by
  obtain ⟨W, b, hW, hb, hlt, hbel, K⟩ := box_facts w k n d s
  subst hb
  exact ⟨W, hW, hbel, K⟩

set_option maxRecDepth 100000 in
set_option maxHeartbeats 4000000 in
theorem v_Print (k n d : Int) (s : ByteArray) (m : Int) (w : World) (htab : Tab w) (hm : w.cell? ⟨5, 0, none⟩ = some (.int .i64 m)) :
    Calls Tryz.prog 24 #[V k n d s] w fun e w' => e = .returned (.tuple #[.string (prnV k n d s), .int .i64 (errB (okB k n d s))]) ∧ Below w.heap.size w w' := by
  have h0 : 5 < w.heap.size := by
    by_cases h : 5 < w.heap.size
    · exact h
    · exfalso
      have : w.heap[5]? = none := Array.getElem?_eq_none (by omega)
      simp [World.cell?, this] at hm
  have HM : Hid (∀ W', Below w.heap.size w W' → W'.cell? ⟨5, 0, none⟩ = some (.int .i64 m)) := fun W' hw => (hw.cell (p := ⟨5, 0, none⟩) h0).trans hm
  have HT := Lib.hid htab
  clear htab hm h0
  have HV := Lib.hid (fun W => k_valid k n d s W)
  by_cases hok : okB k n d s = true
  · have hg := okB_good.1 hok
    have hp : prnV k n d s = if k = 0 then ⟨(63 :: Lib.decDigits n.toNat).toArray⟩ else if k = 1 then (if n = 1 then ⟨#[116, 114, 117, 101]⟩ else ⟨#[102, 97, 108, 115, 101]⟩) else if k = 2 then ⟨(txt (qV n d)).toArray⟩ else ⟨(39 :: quo s.data.toList ++ [39]).toArray⟩ := if_pos hok
    rw [hok] at HV
    rw [hok, hp]
    clear hp hok
    cases hg with
    | text _ h =>
      have hz := h.1
      obtain ⟨W, hW, hbel, K⟩ := kinds_of 3 0 0 s w
      have HBel := Lib.hid hbel
      obtain ⟨k0, k1, k2, k3⟩ := K.out W (Below.refl _ _)
      have HR : Hid (∀ W, Below w.heap.size w W → Calls Tryz.prog 63 #[.string s, .string ⟨#[39]⟩, .string ⟨#[39, 39]⟩] W fun e w' => e = .returned (.string ⟨(quo s.data.toList).toArray⟩) ∧ Below W.heap.size W w') := fun W hw => by
        have h9 := Tryz.strings_ReplaceAll s ⟨#[39]⟩ ⟨#[39, 39]⟩ m W (by omega) (HM.out _ hw) (by decide) (by
          have e1 : Lib.countB s ⟨#[39]⟩ ≤ s.size := by
            have := count_quote_le s.data.toList
            have e2 : s.data.toList.length = s.size := by simp
            first | exact e2 ▸ this | (unfold Lib.countB; exact e2 ▸ this)
          have e2 : (⟨#[39, 39]⟩ : ByteArray).size = 2 := rfl
          rw [e2]; omega)
        have e3 : Lib.replaceAll s.data.toList (⟨#[39]⟩ : ByteArray).data.toList (⟨#[39, 39]⟩ : ByteArray).data.toList = quo s.data.toList := replaceAll_quo _
        rw [e3] at h9
        exact h9
      have hql : (quo s.data.toList).length ≤ 40 := by
        have := quo_length s.data.toList
        have e2 : s.data.toList.length = s.size := by simp
        omega
      rw [if_neg (by decide), if_neg (by decide), if_neg (by decide)]
      generalize quo s.data.toList = Q at *
      clear h hbel
      go_enter Tryz.func24, Tryz.ntmps24
      go_wp2_with fail
      refine (HV.out W).mono ?_
      rintro e w1 ⟨rfl, hb1⟩
      have HB1 := Lib.hid hb1
      clear k0 k1 k2 k3
      obtain ⟨k0, k1, k2, k3⟩ := K.out _ hb1
      clear hb1
      go_wp2_with fail
      refine (HR.out w1 (btr HBel.out HB1.out)).mono ?_
      rintro e w2 ⟨rfl, hb2⟩
      have HB2 := Lib.hid (btr HB1.out hb2)
      clear hb2 k0 k1 k2 k3
      go_wp2
      go_ret2
      exact ⟨ret_two (by apply ByteArray.ext; simp [ByteArray.data_append]), btr HBel.out HB2.out⟩
    | missing n h1 h2 =>
      obtain ⟨c, rfl⟩ : ∃ c : Nat, n = (c : Int) := ⟨n.toNat, by omega⟩
      obtain ⟨W, hW, hbel, K⟩ := kinds_of 0 c 0 noS w
      have HBel := Lib.hid hbel
      obtain ⟨k0, k1, k2, k3⟩ := K.out W (Below.refl _ _)
      have HF : Hid (∀ W, Below w.heap.size w W → Calls Tryz.prog 60 #[.int .i64 c, .int .i64 10] W fun e w' => e = .returned (.string ⟨(Lib.decDigits c).toArray⟩) ∧ Below W.heap.size W w') := fun W hw => c_FormatInt c W (by omega) (HT.out.below hw)
      have hl9 : (Lib.decDigits c).length ≤ 900009 := Nat.le_trans (dec_len_words c 1 (by rw [Nat.pow_one]; unfold W64; omega) (by decide)) (by decide)
      have hT : Hid ((⟨(63 :: Lib.decDigits ((c : Int)).toNat).toArray⟩ : ByteArray) = ⟨(63 :: Lib.decDigits c).toArray⟩) := by show _ = _; rw [Int.toNat_natCast]
      rw [if_pos rfl, hT.out]
      generalize Lib.decDigits c = D at *
      clear hbel
      go_enter Tryz.func24, Tryz.ntmps24
      go_wp2_with fail
      refine (HV.out W).mono ?_
      rintro e w1 ⟨rfl, hb1⟩
      have HB1 := Lib.hid hb1
      clear k0 k1 k2 k3
      obtain ⟨k0, k1, k2, k3⟩ := K.out _ hb1
      clear hb1
      go_wp2_with fail
      refine (HF.out w1 (btr HBel.out HB1.out)).mono ?_
      rintro e w2 ⟨rfl, hb2⟩
      have HB2 := Lib.hid (btr HB1.out hb2)
      clear hb2 k0 k1 k2 k3
      go_wp2
      go_ret2
      exact ⟨ret_two (by apply ByteArray.ext; simp [ByteArray.data_append]), btr HBel.out HB2.out⟩
    | truth t =>
      obtain ⟨W, hW, hbel, K⟩ := kinds_of 1 (bit t) 0 noS w
      have HBel := Lib.hid hbel
      obtain ⟨k0, k1, k2, k3⟩ := K.out W (Below.refl _ _)
      rw [if_neg (by decide), if_pos rfl]
      clear hbel
      cases t
      · have HF := Lib.hid (fun W => Tryz.strconv_FormatBool false W)
        go_enter Tryz.func24, Tryz.ntmps24
        go_wp2_with fail
        refine (HV.out W).mono ?_
        rintro e w1 ⟨rfl, hb1⟩
        have HB1 := Lib.hid hb1
        clear k0 k1 k2 k3
        obtain ⟨k0, k1, k2, k3⟩ := K.out _ hb1
        clear hb1
        go_wp2_with fail
        refine (HF.out w1).mono ?_
        rintro e w2 ⟨rfl, rfl⟩
        clear k0 k1 k2 k3
        go_wp2
        go_ret2
        exact ⟨rfl, btr HBel.out HB1.out⟩
      · have HF := Lib.hid (fun W => Tryz.strconv_FormatBool true W)
        go_enter Tryz.func24, Tryz.ntmps24
        go_wp2_with fail
        refine (HV.out W).mono ?_
        rintro e w1 ⟨rfl, hb1⟩
        have HB1 := Lib.hid hb1
        clear k0 k1 k2 k3
        obtain ⟨k0, k1, k2, k3⟩ := K.out _ hb1
        clear hb1
        go_wp2_with fail
        refine (HF.out w1).mono ?_
        rintro e w2 ⟨rfl, rfl⟩
        clear k0 k1 k2 k3
        go_wp2
        go_ret2
        exact ⟨rfl, btr HBel.out HB1.out⟩
    | num n d h =>
      obtain ⟨W, hW, hbel, K⟩ := kinds_of 2 n d noS w
      have HBel := Lib.hid hbel
      obtain ⟨k0, k1, k2, k3⟩ := K.out W (Below.refl _ _)
      have HR := Lib.hid (fun W => v_rat W n d h)
      have HTx : Hid (∀ W u, Below w.heap.size w W → RatV W u (qV n d) → Calls Tryz.prog 11 #[u] W fun e w' => e = .returned (.string ⟨(txt (qV n d)).toArray⟩) ∧ Below W.heap.size W w') := fun W u hw hu => by
        have h9 := ratW_qV h
        exact v_Text W u _ hu ⟨by have := h9.1; omega, by have := h9.2; omega⟩ (HT.out.below hw)
      rw [if_neg (by decide), if_neg (by decide), if_pos rfl]
      generalize qV n d = q at *
      generalize txt q = T at *
      clear hbel h
      go_enter Tryz.func24, Tryz.ntmps24
      go_wp2_with fail
      refine (HV.out W).mono ?_
      rintro e w1 ⟨rfl, hb1⟩
      have HB1 := Lib.hid hb1
      clear k0 k1 k2 k3
      obtain ⟨k0, k1, k2, k3⟩ := K.out _ hb1
      clear hb1
      go_wp2_with fail
      refine (HR.out w1).mono ?_
      rintro e w2 ⟨u, rfl, hu, hb2⟩
      have HU := Lib.hid hu
      have HB2 := Lib.hid (btr HB1.out hb2)
      clear hu hb2 k0 k1 k2 k3
      go_wp2_with fail
      refine (HTx.out w2 u (btr HBel.out HB2.out) HU.out).mono ?_
      rintro e w3 ⟨rfl, hb3⟩
      have HB3 := Lib.hid (btr HB2.out hb3)
      clear hb3
      go_wp2
      go_ret2
      exact ⟨rfl, btr HBel.out HB3.out⟩
  · have hok' : okB k n d s = false := by simpa using hok
    rw [hok'] at HV
    rw [show prnV k n d s = ⟨#[]⟩ from if_neg hok, hok']
    obtain ⟨W, hW, hbel, K⟩ := kinds_of k n d s w
    have HBel := Lib.hid hbel
    obtain ⟨k0, k1, k2, k3⟩ := K.out W (Below.refl _ _)
    clear hbel hok hok'
    go_enter Tryz.func24, Tryz.ntmps24
    go_wp2_with fail
    refine (HV.out W).mono ?_
    rintro e w1 ⟨rfl, hb1⟩
    have HB1 := Lib.hid hb1
    clear k0 k1 k2 k3 hb1
    go_wp2
    go_ret2
    exact ⟨rfl, btr HBel.out HB1.out⟩
end Go.Proofs.YtmejbkfamapnkaaGreatDoor
end

/- Reading any string, by the value that it seems to be. -/
section
namespace Go.Proofs.YtmejbkfamapnkaaGreatDoor
open Go.RowKit Go.Deep

theorem ba_inj {a b : ByteArray} (h : a.toList = b.toList) : a = b := by
  rw [ByteArray.toList_eq, ByteArray.toList_eq] at h
  apply ByteArray.ext
  exact Array.toList_inj.1 h

set_option maxRecDepth 100000 in
set_option maxHeartbeats 4000000 in
theorem v_Read (s : ByteArray) (k n d : Int) (t : ByteArray) (m : Int) (w : World) (htab : Tab w) (hm : w.cell? ⟨5, 0, none⟩ = some (.int .i64 m))
    (HA : ∀ W, Below w.heap.size w W → Calls Tryz.prog 25 #[.string s] W fun e w' => e = .returned (V k n d t) ∧ Below W.heap.size W w') :
    Calls Tryz.prog 6 #[.string s] w fun e w' => (okB k n d t = true ∧ prnV k n d t = s → e = .returned (.tuple #[V k n d t, .int .i64 0])) ∧ (¬ (okB k n d t = true ∧ prnV k n d t = s) → e = .returned (.tuple #[V 0 0 0 noS, .int .i64 7])) ∧ Below w.heap.size w w' := by
  have h0 : 5 < w.heap.size := by
    by_cases h : 5 < w.heap.size
    · exact h
    · exfalso
      have : w.heap[5]? = none := Array.getElem?_eq_none (by omega)
      simp [World.cell?, this] at hm
  have HPr : Hid (∀ W, Below w.heap.size w W → Calls Tryz.prog 24 #[V k n d t] W fun e w' => e = .returned (.tuple #[.string (prnV k n d t), .int .i64 (errB (okB k n d t))]) ∧ Below W.heap.size W w') :=
    fun W hW => v_Print k n d t m W (htab.below hW) ((hW.cell (p := ⟨5, 0, none⟩) h0).trans hm)
  have HS := Lib.hid HA
  clear hm h0 htab HA
  obtain ⟨W0, hW0, hB0, hz0, KR⟩ := valz_box w
  have HB0 := Lib.hid hB0
  clear hB0
  generalize prnV k n d t = P at *
  cases hok : okB k n d t
  · rw [hok] at HPr
    clear hok
    go_enter Tryz.func6, Tryz.ntmps6
    go_wp2_with fail
    refine (HS.out W0 HB0.out).mono ?_
    rintro e w1 ⟨rfl, hb1⟩
    have HB1 := Lib.hid hb1
    clear hb1
    obtain ⟨W2, hW2, hb2, K⟩ := kinds_of k n d t w1
    have HB2 := Lib.hid (btr HB1.out hb2)
    obtain ⟨k0, k1, k2, k3⟩ := K.out W2 (Below.refl _ _)
    clear hb2
    go_wp2_with fail
    refine (HPr.out W2 (btr HB0.out HB2.out)).mono ?_
    rintro e w3 ⟨rfl, hb3⟩
    have HB3 := Lib.hid (btr HB2.out hb3)
    have hcell := KR.out w3 HB3.out
    have hBf := btr HB0.out HB3.out
    clear hb3 k0 k1 k2 k3
    go_wp2_with (refine wpList_store_row 24 _ _ rfl rfl rfl w.heap.size 24 rfl [.int .i64 0, .int .i64 0, .int .i64 0, .string noS] rfl _ hcell rfl info_val (val_one _ _ _ _) ?_; intro wz hhz hgz hzz; have HBz : Hid (Below w.heap.size w wz) := hBf.grown hgz hBf.size (fun j hj => by injection hj with hj; omega); clear hzz hgz hcell)
    refine bodyPost_ret (v := .tuple #[V 0 0 0 noS, .int .i64 7]) (results_cell_tmp Tryz.results6 _ _ w.heap.size 24 _ (0, 0) _ rfl hhz Tryz.underlying24 rfl (by rw [info_val]; rfl)) rfl ?_
    exact ⟨fun h => absurd h.1 (by decide), fun _ => rfl, HBz.out⟩
  · rw [hok] at HPr
    clear hok
    by_cases hps : P = s
    · have heq : (P.toList == s.toList) = true := by rw [hps]; simp
      have HPS := Lib.hid hps
      clear hps
      go_enter Tryz.func6, Tryz.ntmps6
      go_wp2_with fail
      refine (HS.out W0 HB0.out).mono ?_
      rintro e w1 ⟨rfl, hb1⟩
      have HB1 := Lib.hid hb1
      clear hb1
      obtain ⟨W2, hW2, hb2, K⟩ := kinds_of k n d t w1
      have HB2 := Lib.hid (btr HB1.out hb2)
      obtain ⟨k0, k1, k2, k3⟩ := K.out W2 (Below.refl _ _)
      clear hb2
      go_wp2_with fail
      refine (HPr.out W2 (btr HB0.out HB2.out)).mono ?_
      rintro e w3 ⟨rfl, hb3⟩
      have HB3 := Lib.hid (btr HB2.out hb3)
      have hcell := KR.out w3 HB3.out
      have hBf := btr HB0.out HB3.out
      clear k0 k1 k2 k3
      obtain ⟨k0, k1, k2, k3⟩ := K.out w3 hb3
      clear hb3
      go_wp2_with (refine wpList_store_row 24 _ _ rfl rfl rfl w.heap.size 24 rfl [.int .i64 k, .int .i64 n, .int .i64 d, .string t] rfl _ hcell rfl info_val (val_one _ _ _ _) ?_; intro wz hhz hgz hzz; have HBz : Hid (Below w.heap.size w wz) := hBf.grown hgz hBf.size (fun j hj => by injection hj with hj; omega); clear hzz hgz hcell)
      refine bodyPost_ret (v := .tuple #[V k n d t, .int .i64 0]) (results_cell_tmp Tryz.results6 _ _ w.heap.size 24 _ (0, 0) _ rfl hhz Tryz.underlying24 rfl (by rw [info_val]; rfl)) rfl ?_
      exact ⟨fun _ => rfl, fun h => absurd ⟨by first | rfl | trivial, HPS.out⟩ h, HBz.out⟩
    · have heq : (P.toList == s.toList) = false := by rw [beq_eq_false_iff_ne]; exact fun h => hps (ba_inj h)
      have HPS := Lib.hid hps
      clear hps
      go_enter Tryz.func6, Tryz.ntmps6
      go_wp2_with fail
      refine (HS.out W0 HB0.out).mono ?_
      rintro e w1 ⟨rfl, hb1⟩
      have HB1 := Lib.hid hb1
      clear hb1
      obtain ⟨W2, hW2, hb2, K⟩ := kinds_of k n d t w1
      have HB2 := Lib.hid (btr HB1.out hb2)
      obtain ⟨k0, k1, k2, k3⟩ := K.out W2 (Below.refl _ _)
      clear hb2
      go_wp2_with fail
      refine (HPr.out W2 (btr HB0.out HB2.out)).mono ?_
      rintro e w3 ⟨rfl, hb3⟩
      have HB3 := Lib.hid (btr HB2.out hb3)
      have hcell := KR.out w3 HB3.out
      have hBf := btr HB0.out HB3.out
      clear k0 k1 k2 k3 hb3
      go_wp2_with (refine wpList_store_row 24 _ _ rfl rfl rfl w.heap.size 24 rfl [.int .i64 0, .int .i64 0, .int .i64 0, .string noS] rfl _ hcell rfl info_val (val_one _ _ _ _) ?_; intro wz hhz hgz hzz; have HBz : Hid (Below w.heap.size w wz) := hBf.grown hgz hBf.size (fun j hj => by injection hj with hj; omega); clear hzz hgz hcell)
      refine bodyPost_ret (v := .tuple #[V 0 0 0 noS, .int .i64 7]) (results_cell_tmp Tryz.results6 _ _ w.heap.size 24 _ (0, 0) _ rfl hhz Tryz.underlying24 rfl (by rw [info_val]; rfl)) rfl ?_
      exact ⟨fun h => absurd h.2 HPS.out, fun _ => rfl, HBz.out⟩
end Go.Proofs.YtmejbkfamapnkaaGreatDoor
end
