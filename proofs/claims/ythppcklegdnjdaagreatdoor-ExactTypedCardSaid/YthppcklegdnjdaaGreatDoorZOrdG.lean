/- The value of any number, and the number of any value. -/
import Derived.Test.YthppcklegdnjdaaGreatDoorZRatV
import Derived.Test.YthppcklegdnjdaaGreatDoorZNum
import Derived.Test.YthppcklegdnjdaaGreatDoorZInv
import Derived.Test.YthppcklegdnjdaaGreatDoorZOrd

/- The value of any number, and the number of any value. -/
section
namespace Go.Proofs.YthppcklegdnjdaaGreatDoor
open Go Go.RowKit Go.Deep

instance instLow (n d : Int) : Decidable (Low n d) := by unfold Low; infer_instance
/-- The number of a value. -/
def qV (n d : Int) : Rat := if h : Low n d then ⟨n, d.natAbs, by have := h.2.2.1; omega, h.2.2.2.2⟩ else 0
theorem qV_num {n d : Int} (h : Low n d) : (qV n d).num = n := by unfold qV; rw [dif_pos h]
theorem qV_den {n d : Int} (h : Low n d) : (qV n d).den = d.natAbs := by unfold qV; rw [dif_pos h]
theorem sgn_num (n : Int) : sgn (decide (n < 0)) n.natAbs = decide (n < 0) := by
  unfold sgn
  by_cases h : n < 0
  · rw [decide_eq_true h, Bool.true_and, decide_eq_true_iff]; omega
  · rw [decide_eq_false h]; rfl
theorem v_rat (w : World) (n d : Int) (h : Low n d) : Calls Tryz.prog 44 #[V 2 n d noS] w (RatVRet w (qV n d)) := by
  refine (c_rat w n d h).mono ?_
  rintro e w' ⟨u, rfl, hu, hb⟩
  exact ⟨u, rfl, hu.toV (by rw [qV_num h, sgn_num]) (by rw [qV_num h]) (by rw [qV_den h]), hb⟩
theorem ratW_qV {n d : Int} (h : Low n d) : RatW (qV n d) 1 := by
  have h1 := qV_num h
  have h2 := qV_den h
  obtain ⟨a, b, c, e, _⟩ := h
  refine ⟨?_, ?_⟩
  · rw [h1, nw_le_one]; unfold W64; omega
  · rw [h2, nw_le_one]; unfold W64; omega

def Small (q : Rat) : Prop := q.num.natAbs ≤ 1099511627776 ∧ q.den ≤ 1099511627776
instance (q : Rat) : Decidable (Small q) := by unfold Small; infer_instance
def valK (q : Rat) : Int := if Small q then 2 else 0
def valN (q : Rat) : Int := if Small q then q.num else 2
def valD (q : Rat) : Int := if Small q then q.den else 0
theorem low_small {q : Rat} (h : Small q) : Low q.num q.den := by
  have := q.den_pos
  exact ⟨by have := h.1; omega, by have := h.1; omega, by omega, by have := h.2; omega, by rw [Int.natAbs_natCast]; exact q.reduced⟩
theorem val_good (q : Rat) : Good (valK q) (valN q) (valD q) noS := by
  unfold valK valN valD
  by_cases h : Small q
  · rw [if_pos h, if_pos h, if_pos h]; exact .num _ _ (low_small h)
  · rw [if_neg h, if_neg h, if_neg h]; exact .missing 2 (by omega) (by omega)

theorem nat_at0 {w : World} {v : Value} {x : Nat} (h : NatAt w v x) (hx : 0 < x) : ∃ A c b o, v = .slice A (nw x) c ∧ A = some ⟨b, o, none⟩ ∧ b < w.heap.size ∧ w.cell? ⟨b, o, none⟩ = some (U (dig x 0)) := by
  obtain ⟨A, c, rfl, _, _, h3⟩ := h
  obtain ⟨b, o, e1, e2, e3⟩ := h3 ((nw_pos x).2 hx)
  exact ⟨A, c, b, o, rfl, e1, e2, by have := e3 0 ((nw_pos x).2 hx); rwa [Nat.add_zero] at this⟩

theorem row_v {X : World} {b : Nat} {k n d : Int} {s : ByteArray} (h : X.heap[b]? = some (.cells #[.int .i64 k, .int .i64 n, .int .i64 d, .string s] 24 (0, 0))) :
    X.cell? ⟨b, 0, none⟩ = some (.int .i64 k) ∧ X.cell? ⟨b, 1, none⟩ = some (.int .i64 n) ∧ X.cell? ⟨b, 2, none⟩ = some (.int .i64 d) ∧ X.cell? ⟨b, 3, none⟩ = some (.string s) := by
  refine ⟨?_, ?_, ?_, ?_⟩ <;> (rw [cell_of_row _ _ _ _ _ _ h]; rfl)

set_option maxRecDepth 100000 in
set_option maxHeartbeats 4000000 in
theorem v_Value (w : World) (x : Value) (q : Rat) (h : RatV w x q) :
    Calls Tryz.prog 89 #[x] w fun e w' => e = .returned (V (valK q) (valN q) (valD q) noS) ∧ Below w.heap.size w w' := by
  have HV := Lib.hid (fun W (hW : Below w.heap.size w W) => c_valid W x _ _ _ (h.below hW))
  have hd0 := q.den_pos
  have hsg := Int.natAbs_natCast
  obtain ⟨b, nv, dv, rfl, hlt, _, c1, c2, c3, hn, hd⟩ := h
  have HN := Lib.hid hn
  obtain ⟨A, c, rfl, _, _, _⟩ := hn
  obtain ⟨A', c', bd, od, rfl, rfl, hbd, cd⟩ := nat_at0 hd hd0
  clear hd hsg
  have HR0 := Lib.hid (heap_alloc_new w (.cells #[.int .i64 0, .int .i64 0, .int .i64 0, .string ⟨#[]⟩] 24))
  have HC : Hid (∀ W, Below w.heap.size w W → W.cell? ⟨b, 1, none⟩ = some (.bool (decide (q.num < 0))) ∧ W.cell? ⟨b, 2, none⟩ = some (.slice A (nw q.num.natAbs) c) ∧ W.cell? ⟨b, 3, none⟩ = some (.slice (some ⟨bd, od, none⟩) (nw q.den) c') ∧ W.cell? ⟨bd, od, none⟩ = some (U (dig q.den 0))) := fun W hW =>
    ⟨(hW.cell (p := ⟨b, 1, none⟩) hlt).trans c1, (hW.cell (p := ⟨b, 2, none⟩) hlt).trans c2, (hW.cell (p := ⟨b, 3, none⟩) hlt).trans c3, (hW.cell (p := ⟨bd, od, none⟩) hbd).trans cd⟩
  have HA : Hid (∀ W, Below w.heap.size w W → Calls Tryz.prog 73 #[.slice A (nw q.num.natAbs) c, .int .i64 0] W fun e w' => e = .returned (U (dig q.num.natAbs 0)) ∧ W = w') := fun W hW => n_at W (.slice A (nw q.num.natAbs) c) q.num.natAbs 0 (HN.out.below hW)
  clear c1 c2 c3 cd HN hbd
  by_cases hs : Small q
  · rw [show valK q = 2 from if_pos hs, show valN q = q.num from if_pos hs, show valD q = q.den from if_pos hs]
    obtain ⟨s1, s2⟩ := hs
    have n1 : nw q.num.natAbs ≤ 1 := (nw_le_one _).2 (by unfold W64; omega)
    have n2 : nw q.den = 1 := nw_one _ hd0 (by unfold W64; omega)
    rw [dig_small _ (show q.num.natAbs < W64 by unfold W64; omega)] at HA
    rw [dig_small _ (show q.den < W64 by unfold W64; omega), n2] at HC
    clear n2
    generalize nw q.num.natAbs = m at *
    have hnum : (decide (q.num < 0) = true ∧ q.num = -(q.num.natAbs : Int)) ∨ (decide (q.num < 0) = false ∧ q.num = (q.num.natAbs : Int)) := by
      by_cases h9 : q.num < 0
      · exact .inl ⟨decide_eq_true h9, by omega⟩
      · exact .inr ⟨decide_eq_false h9, by omega⟩
    generalize q.num.natAbs = n at *
    generalize q.den = d at *
    generalize decide (q.num < 0) = sg at *
    generalize q.num = qn at *
    go_enter Tryz.func89, Tryz.ntmps89
    go_wp2_with fail
    generalize HW : w.alloc (.cells #[.int .i64 0, .int .i64 0, .int .i64 0, .string ⟨#[]⟩] 24) = W0 at *
    have B0 : Below w.heap.size w W0 := by rw [← HW]; exact (Below.refl _ _).alloc (Nat.le_refl _) _
    have hz0 : w.heap.size < W0.heap.size := by rw [← HW]; simp
    clear HW
    refine (HV.out _ B0).mono ?_
    rintro e w' ⟨rfl, rfl⟩
    obtain ⟨c1, c2, c3, cd⟩ := HC.out _ B0
    clear HV
    go_wp2_with fail
    refine (HA.out _ B0).mono ?_
    rintro e w' ⟨rfl, rfl⟩
    go_wp2_with fail
    have HK : Hid (∀ W, Below W0.heap.size W0 W → W.cell? ⟨b, 2, none⟩ = some (.slice A m c) ∧ W.cell? ⟨b, 3, none⟩ = some (.slice (some ⟨bd, od, none⟩) 1 c') ∧ W.cell? ⟨bd, od, none⟩ = some (U d)) := fun W hW => (HC.out W (btr B0 hW)).2
    have HA2 : Hid (∀ W, Below W0.heap.size W0 W → Calls Tryz.prog 73 #[.slice A m c, .int .i64 0] W fun e w' => e = .returned (U n) ∧ W = w') := fun W hW => HA.out W (btr B0 hW)
    have B1 : Below W0.heap.size W0 W0.drew := Below.drew (Below.refl _ _)
    have H1 : Hid (∀ W, Below W0.heap.size W0 W → W.cell? ⟨b, 1, none⟩ = some (.bool sg)) := fun W hW => (HC.out W (btr B0 hW)).1
    have e1 : IntKind.i64.wrap (n : Int) = n := by rw [IntKind.wrap_i64]; omega
    have e2 : IntKind.i64.wrap (d : Int) = d := by rw [IntKind.wrap_i64]; omega
    clear c1 c2 c3 cd HC HA
    go_region_held3 (fun w' => w'.cell? ⟨b, 2, none⟩ = some (.slice A m c) ∧ w'.cell? ⟨b, 3, none⟩ = some (.slice (some ⟨bd, od, none⟩) 1 c') ∧ w'.cell? ⟨bd, od, none⟩ = some (U d))
      (first | exact HK.out _ B1 | exact HK.out _ (B1.alloc (Nat.le_refl _) _) | exact HK.out _ (Below.refl _ _))
      (first
        | (go_at_call 73; refine (HA2.out _ (by first | exact B1 | exact B1.alloc (Nat.le_refl _) _)).mono ?_; rintro e w' ⟨rfl, rfl⟩))
    all_goals

      have hv := heap_alloc_new W0 (.cells #[.int .i64 2, .int .i64 n, .int .i64 d, .string ⟨#[]⟩] 24)
      have bV : Below W0.heap.size W0 (W0.alloc (.cells #[.int .i64 2, .int .i64 n, .int .i64 d, .string ⟨#[]⟩] 24)).drew := Below.drew ((Below.refl _ _).alloc (Nat.le_refl _) _)
      have hv' : (W0.alloc (.cells #[.int .i64 2, .int .i64 n, .int .i64 d, .string ⟨#[]⟩] 24)).drew.heap[W0.heap.size]? = some (.cells #[.int .i64 2, .int .i64 n, .int .i64 d, .string ⟨#[]⟩] 24 (0, 0)) := hv
      clear hv
      generalize (W0.alloc (.cells #[.int .i64 2, .int .i64 n, .int .i64 d, .string ⟨#[]⟩] 24)).drew = X at *
      obtain ⟨r0, r1, r2, r3⟩ := row_v hv'
      have q1 := H1.out _ bV
      have f1 : X.frozen? ⟨W0.heap.size, 1, none⟩ = false := by simp [World.frozen?, hv']
      have hr := (bV.block _ hz0).trans HR0.out
      rcases hnum with ⟨rfl, rfl⟩ | ⟨rfl, rfl⟩
      · have hr' : (X.setCell ⟨W0.heap.size, 1, none⟩ (.int .i64 (-(n : Int)))).heap[w.heap.size]? = some (.cells #[.int .i64 0, .int .i64 0, .int .i64 0, .string ⟨#[]⟩] 24 (0, 0)) := (Below.heap_setCell X ⟨W0.heap.size, 1, none⟩ _ _ (by show w.heap.size ≠ W0.heap.size; omega)).trans hr
        obtain ⟨t0, t1, t2, t3, g0, g1, g2, g3⟩ := res_at hr'
        have HR := Lib.hid hr'
        have BX : Hid (Below w.heap.size w (X.setCell ⟨W0.heap.size, 1, none⟩ (.int .i64 (-(n : Int))))) := (btr B0 bV).setCell (p := ⟨W0.heap.size, 1, none⟩) (by show w.heap.size ≤ W0.heap.size; omega) _
        clear hr hr' hv' bV
        go_wp2
        exact bodyPost_ret (v := V 2 (-(n : Int)) d noS) (results_cell_row Tryz.results89 _ _ w.heap.size 24 _ (0, 0) _ rfl (put4 HR.out _ _ _ _) Tryz.underlying24 rfl (by rw [info_v4]; rfl)) rfl ⟨rfl, below4 BX.out _ (Nat.le_refl _) _ _ _ _⟩
      · obtain ⟨t0, t1, t2, t3, g0, g1, g2, g3⟩ := res_at hr
        have HR := Lib.hid hr
        have BX : Hid (Below w.heap.size w X) := btr B0 bV
        clear hr hv' bV
        go_wp2
        exact bodyPost_ret (v := V 2 (n : Int) d noS) (results_cell_row Tryz.results89 _ _ w.heap.size 24 _ (0, 0) _ rfl (put4 HR.out _ _ _ _) Tryz.underlying24 rfl (by rw [info_v4]; rfl)) rfl ⟨rfl, below4 BX.out _ (Nat.le_refl _) _ _ _ _⟩
  · rw [show valK q = 0 from if_neg hs, show valN q = 2 from if_neg hs, show valD q = 0 from if_neg hs]
    by_cases m1 : nw q.num.natAbs ≤ 1
    · by_cases m2 : nw q.den ≤ 1
      · have n2 : nw q.den = 1 := nw_one _ hd0 ((nw_le_one _).1 m2)
        rw [dig_small _ ((nw_le_one _).1 m1)] at HA
        rw [dig_small _ ((nw_le_one _).1 m2), n2] at HC
        have w1 := (nw_le_one _).1 m1
        have w2 := (nw_le_one _).1 m2
        by_cases h1 : q.num.natAbs ≤ 1099511627776
        · have h2 : (1099511627776 : Int) < (q.den : Int) := by
            have : ¬ q.den ≤ 1099511627776 := fun h9 => hs ⟨h1, h9⟩
            omega
          clear hs n2 m2 w1 w2
          generalize nw q.num.natAbs = m at *
          generalize q.num.natAbs = n at *
          generalize q.den = d at *
          generalize decide (q.num < 0) = sg at *
          go_enter Tryz.func89, Tryz.ntmps89
          go_wp2_with fail
          generalize HW : w.alloc (.cells #[.int .i64 0, .int .i64 0, .int .i64 0, .string ⟨#[]⟩] 24) = W0 at *
          have B0 : Below w.heap.size w W0 := by rw [← HW]; exact (Below.refl _ _).alloc (Nat.le_refl _) _
          have hz0 : w.heap.size < W0.heap.size := by rw [← HW]; simp
          clear HW
          refine (HV.out _ B0).mono ?_
          rintro e w' ⟨rfl, rfl⟩
          obtain ⟨c1, c2, c3, cd⟩ := HC.out _ B0
          clear HV c1
          go_wp2_with fail
          refine (HA.out _ B0).mono ?_
          rintro e w' ⟨rfl, rfl⟩
          clear HA HC
          go_wp2_with fail
          refine (c_missing 2 _).mono ?_
          rintro e w1 ⟨rfl, hb1⟩
          have hh1 := (hb1.block _ hz0).trans HR0.out
          obtain ⟨r0, r1, r2, r3, f0, f1, f2, f3⟩ := res_at hh1
          have HH1 := Lib.hid hh1
          clear hh1 c2 c3 cd
          go_wp2
          exact bodyPost_ret (v := V 0 2 0 noS) (results_cell_row Tryz.results89 _ _ w.heap.size 24 _ (0, 0) _ rfl (put4 HH1.out _ _ _ _) Tryz.underlying24 rfl (by rw [info_v4]; rfl)) rfl ⟨rfl, below4 (btr B0 hb1) _ (Nat.le_refl _) _ _ _ _⟩
        · have h2 : (1099511627776 : Int) < (q.num.natAbs : Int) := by omega
          clear hs n2 m2 w1 w2 h1
          generalize nw q.num.natAbs = m at *
          generalize q.num.natAbs = n at *
          generalize q.den = d at *
          generalize decide (q.num < 0) = sg at *
          go_enter Tryz.func89, Tryz.ntmps89
          go_wp2_with fail
          generalize HW : w.alloc (.cells #[.int .i64 0, .int .i64 0, .int .i64 0, .string ⟨#[]⟩] 24) = W0 at *
          have B0 : Below w.heap.size w W0 := by rw [← HW]; exact (Below.refl _ _).alloc (Nat.le_refl _) _
          have hz0 : w.heap.size < W0.heap.size := by rw [← HW]; simp
          clear HW
          refine (HV.out _ B0).mono ?_
          rintro e w' ⟨rfl, rfl⟩
          obtain ⟨c1, c2, c3, cd⟩ := HC.out _ B0
          clear HV c1
          go_wp2_with fail
          refine (HA.out _ B0).mono ?_
          rintro e w' ⟨rfl, rfl⟩
          clear HA HC
          go_wp2_with fail
          refine (c_missing 2 _).mono ?_
          rintro e w1 ⟨rfl, hb1⟩
          have hh1 := (hb1.block _ hz0).trans HR0.out
          obtain ⟨r0, r1, r2, r3, f0, f1, f2, f3⟩ := res_at hh1
          have HH1 := Lib.hid hh1
          clear hh1 c2 c3 cd
          go_wp2
          exact bodyPost_ret (v := V 0 2 0 noS) (results_cell_row Tryz.results89 _ _ w.heap.size 24 _ (0, 0) _ rfl (put4 HH1.out _ _ _ _) Tryz.underlying24 rfl (by rw [info_v4]; rfl)) rfl ⟨rfl, below4 (btr B0 hb1) _ (Nat.le_refl _) _ _ _ _⟩
      · have h2 : (1 : Int) < (nw q.den : Int) := by omega
        clear hs m2
        generalize nw q.num.natAbs = m at *
        generalize nw q.den = m' at *
        generalize dig q.num.natAbs 0 = n at *
        generalize dig q.den 0 = d at *
        generalize decide (q.num < 0) = sg at *
        go_enter Tryz.func89, Tryz.ntmps89
        go_wp2_with fail
        generalize HW : w.alloc (.cells #[.int .i64 0, .int .i64 0, .int .i64 0, .string ⟨#[]⟩] 24) = W0 at *
        have B0 : Below w.heap.size w W0 := by rw [← HW]; exact (Below.refl _ _).alloc (Nat.le_refl _) _
        have hz0 : w.heap.size < W0.heap.size := by rw [← HW]; simp
        clear HW
        refine (HV.out _ B0).mono ?_
        rintro e w' ⟨rfl, rfl⟩
        obtain ⟨c1, c2, c3, cd⟩ := HC.out _ B0
        clear HV c1
        clear HA HC
        go_wp2_with fail
        refine (c_missing 2 _).mono ?_
        rintro e w1 ⟨rfl, hb1⟩
        have hh1 := (hb1.block _ hz0).trans HR0.out
        obtain ⟨r0, r1, r2, r3, f0, f1, f2, f3⟩ := res_at hh1
        have HH1 := Lib.hid hh1
        clear hh1 c2 c3 cd
        go_wp2
        exact bodyPost_ret (v := V 0 2 0 noS) (results_cell_row Tryz.results89 _ _ w.heap.size 24 _ (0, 0) _ rfl (put4 HH1.out _ _ _ _) Tryz.underlying24 rfl (by rw [info_v4]; rfl)) rfl ⟨rfl, below4 (btr B0 hb1) _ (Nat.le_refl _) _ _ _ _⟩
    · have h2 : (1 : Int) < (nw q.num.natAbs : Int) := by omega
      clear hs m1
      generalize nw q.num.natAbs = m at *
      generalize nw q.den = m' at *
      generalize dig q.num.natAbs 0 = n at *
      generalize dig q.den 0 = d at *
      generalize decide (q.num < 0) = sg at *
      go_enter Tryz.func89, Tryz.ntmps89
      go_wp2_with fail
      generalize HW : w.alloc (.cells #[.int .i64 0, .int .i64 0, .int .i64 0, .string ⟨#[]⟩] 24) = W0 at *
      have B0 : Below w.heap.size w W0 := by rw [← HW]; exact (Below.refl _ _).alloc (Nat.le_refl _) _
      have hz0 : w.heap.size < W0.heap.size := by rw [← HW]; simp
      clear HW
      refine (HV.out _ B0).mono ?_
      rintro e w' ⟨rfl, rfl⟩
      obtain ⟨c1, c2, c3, cd⟩ := HC.out _ B0
      clear HV c1
      clear HA HC
      go_wp2_with fail
      refine (c_missing 2 _).mono ?_
      rintro e w1 ⟨rfl, hb1⟩
      have hh1 := (hb1.block _ hz0).trans HR0.out
      obtain ⟨r0, r1, r2, r3, f0, f1, f2, f3⟩ := res_at hh1
      have HH1 := Lib.hid hh1
      clear hh1 c2 c3 cd
      go_wp2
      exact bodyPost_ret (v := V 0 2 0 noS) (results_cell_row Tryz.results89 _ _ w.heap.size 24 _ (0, 0) _ rfl (put4 HH1.out _ _ _ _) Tryz.underlying24 rfl (by rw [info_v4]; rfl)) rfl ⟨rfl, below4 (btr B0 hb1) _ (Nat.le_refl _) _ _ _ _⟩
end Go.Proofs.YthppcklegdnjdaaGreatDoor
end

/- The order of any two values. -/
section
namespace Go.Proofs.YthppcklegdnjdaaGreatDoor
open Go Go.RowKit Go.Deep

theorem mul_bound {a b : Int} (ha : -1099511627776 ≤ a ∧ a ≤ 1099511627776) (hb : 1 ≤ b ∧ b ≤ 1099511627776) : -1208925819614629174706176 ≤ a * b ∧ a * b ≤ 1208925819614629174706176 := by
  have h1 : a * b ≤ 1099511627776 * b := Int.mul_le_mul_of_nonneg_right ha.2 (by omega)
  have h2 : -1099511627776 * b ≤ a * b := Int.mul_le_mul_of_nonneg_right ha.1 (by omega)
  omega
set_option maxRecDepth 100000 in
set_option maxHeartbeats 2000000 in
theorem c_sp (a b : Int) (w : World) (ha : -1099511627776 ≤ a ∧ a ≤ 1099511627776) (hb : 1 ≤ b ∧ b ≤ 1099511627776) :
    Calls Tryz.prog 100 #[.int .i64 a, .int .i64 b] w fun e w' => e = .returned (.tuple #[.int .i64 (a * b / 18446744073709551616), .int .u64 (a * b % 18446744073709551616)]) ∧ w = w' := by
  have hab := mul_bound ha hb
  have eb : IntKind.u64.wrap b = b := by rw [IntKind.wrap_u64]; omega
  by_cases h0 : a < 0
  · have ea : IntKind.u64.wrap a = a + 18446744073709551616 := by rw [IntKind.wrap_u64]; omega
    obtain ⟨x, hx⟩ : ∃ x : Nat, a + 18446744073709551616 = (x : Int) := ⟨(a + 18446744073709551616).toNat, by omega⟩
    obtain ⟨y, rfl⟩ : ∃ y : Nat, b = (y : Int) := ⟨b.toNat, by omega⟩
    have hxy : ((x * y : Nat) : Int) = a * y + 18446744073709551616 * y := by push_cast; rw [← hx, Int.add_mul]
    have hM := Tryz.bits_Mul64 x y (by omega) (by omega) w
    rw [Int.natCast_ediv, Int.natCast_emod, hxy] at hM
    rw [show (((18446744073709551616 : Nat)) : Int) = 18446744073709551616 from rfl] at hM
    rw [show (a * (y : Int) + 18446744073709551616 * y) / 18446744073709551616 = a * y / 18446744073709551616 + y by omega, show (a * (y : Int) + 18446744073709551616 * y) % 18446744073709551616 = a * y % 18446744073709551616 by omega] at hM
    have HM : Hid (Calls Tryz.prog 106 #[.int .u64 (IntKind.u64.wrap a), .int .u64 (y : Int)] w fun e w' => e = .returned (.tuple #[.int .u64 (a * y / 18446744073709551616 + y), .int .u64 (a * y % 18446744073709551616)]) ∧ w = w') := by
      rw [ea, hx]
      exact hM.mono fun e w' h => ⟨h.1, h.2.symm⟩
    clear hM hxy hx
    generalize hh : a * (y : Int) / 18446744073709551616 = H at *
    generalize hl : a * (y : Int) % 18446744073709551616 = L at *
    have e3 : IntKind.i64.wrap (IntKind.u64.wrap (H + y - IntKind.u64.wrap y)) = H := by rw [eb, IntKind.wrap_i64, IntKind.wrap_u64]; omega
    have e4 : IntKind.i64.wrap (IntKind.u64.wrap (H + y - y)) = H := by rw [IntKind.wrap_i64, IntKind.wrap_u64]; omega
    have e5 : IntKind.i64.wrap (IntKind.u64.wrap H) = H := by rw [IntKind.wrap_i64, IntKind.wrap_u64]; omega
    have e6 : H + (y : Int) - y = H := by omega
    have HE := Lib.hid (And.intro e3 (And.intro e4 (And.intro e5 e6)))
    clear ea eb e3 e4 e5 e6
    go_enter Tryz.func100, Tryz.ntmps100
    go_wp2_with fail
    refine HM.out.mono ?_
    rintro e w' ⟨rfl, rfl⟩
    clear HM
    go_wp2
    go_ret2
    refine ⟨?_, rfl⟩
    show Ending.returned (.tuple #[.int .i64 (wrap64 (IntKind.u64.wrap H)), .int .u64 L]) = _
    rw [show wrap64 (IntKind.u64.wrap H) = H by rw [IntKind.wrap_u64]; unfold wrap64; omega]
  · have ea : IntKind.u64.wrap a = a := by rw [IntKind.wrap_u64]; omega
    obtain ⟨x, rfl⟩ : ∃ x : Nat, a = (x : Int) := ⟨a.toNat, by omega⟩
    obtain ⟨y, rfl⟩ : ∃ y : Nat, b = (y : Int) := ⟨b.toNat, by omega⟩
    have hM := Tryz.bits_Mul64 x y (by omega) (by omega) w
    rw [Int.natCast_ediv, Int.natCast_emod, Int.natCast_mul] at hM
    rw [show (((18446744073709551616 : Nat)) : Int) = 18446744073709551616 from rfl] at hM
    have HM : Hid (Calls Tryz.prog 106 #[.int .u64 (x : Int), .int .u64 (y : Int)] w fun e w' => e = .returned (.tuple #[.int .u64 ((x : Int) * y / 18446744073709551616), .int .u64 ((x : Int) * y % 18446744073709551616)]) ∧ w = w') := by
      exact hM.mono fun e w' h => ⟨h.1, h.2.symm⟩
    clear hM
    generalize hh : (x : Int) * (y : Int) / 18446744073709551616 = H at *
    generalize hl : (x : Int) * (y : Int) % 18446744073709551616 = L at *
    have e5 : IntKind.i64.wrap H = H := by rw [IntKind.wrap_i64]; omega
    have HE := Lib.hid e5
    clear ea eb e5
    go_enter Tryz.func100, Tryz.ntmps100
    go_wp2_with fail
    refine HM.out.mono ?_
    rintro e w' ⟨rfl, rfl⟩
    clear HM
    go_wp2
    go_ret2
    exact ⟨rfl, rfl⟩

set_option maxRecDepth 100000 in
set_option maxHeartbeats 1000000 in
theorem c_cmpI (x y : Int) (w : World) : Calls Tryz.prog 64 #[.int .i64 x, .int .i64 y] w fun e w' => e = .returned (.int .i64 (Lib.compareInt x y)) ∧ w = w' := by
  rcases Int.lt_trichotomy x y with h | h | h
  · rw [show Lib.compareInt x y = -1 from if_pos h]
    go_enter Tryz.func64, Tryz.ntmps64
    go_wp2
    go_ret
    exact ⟨rfl, rfl⟩
  · subst h
    rw [show Lib.compareInt x x = 0 by simp [Lib.compareInt]]
    go_enter Tryz.func64, Tryz.ntmps64
    go_wp2
    go_ret
    exact ⟨rfl, rfl⟩
  · rw [show Lib.compareInt x y = 1 by unfold Lib.compareInt; rw [if_neg (by omega), if_pos h]]
    have h' : ¬ x < y := by omega
    go_enter Tryz.func64, Tryz.ntmps64
    go_wp2
    go_ret
    exact ⟨rfl, rfl⟩
set_option maxRecDepth 100000 in
set_option maxHeartbeats 1000000 in
theorem c_cmpU (x y : Int) (w : World) : Calls Tryz.prog 101 #[.int .u64 x, .int .u64 y] w fun e w' => e = .returned (.int .i64 (Lib.compareInt x y)) ∧ w = w' := by
  rcases Int.lt_trichotomy x y with h | h | h
  · rw [show Lib.compareInt x y = -1 from if_pos h]
    go_enter Tryz.func101, Tryz.ntmps101
    go_wp2
    go_ret
    exact ⟨rfl, rfl⟩
  · subst h
    rw [show Lib.compareInt x x = 0 by simp [Lib.compareInt]]
    go_enter Tryz.func101, Tryz.ntmps101
    go_wp2
    go_ret
    exact ⟨rfl, rfl⟩
  · rw [show Lib.compareInt x y = 1 by unfold Lib.compareInt; rw [if_neg (by omega), if_pos h]]
    have h' : ¬ x < y := by omega
    go_enter Tryz.func101, Tryz.ntmps101
    go_wp2
    go_ret
    exact ⟨rfl, rfl⟩
/-- The two words of two numbers compare as the numbers do. -/
theorem compare_words (x y : Int) : Lib.compareInt x y = if x / 18446744073709551616 = y / 18446744073709551616 then Lib.compareInt (x % 18446744073709551616) (y % 18446744073709551616) else Lib.compareInt (x / 18446744073709551616) (y / 18446744073709551616) := by
  unfold Lib.compareInt
  split <;> (repeat' split) <;> omega
set_option maxRecDepth 100000 in
set_option maxHeartbeats 2000000 in
theorem c_cp (a b c d : Int) (w : World) (ha : -1099511627776 ≤ a ∧ a ≤ 1099511627776) (hb : 1 ≤ b ∧ b ≤ 1099511627776) (hc : -1099511627776 ≤ c ∧ c ≤ 1099511627776) (hd : 1 ≤ d ∧ d ≤ 1099511627776) :
    Calls Tryz.prog 62 #[.int .i64 a, .int .i64 b, .int .i64 c, .int .i64 d] w fun e w' => e = .returned (.int .i64 (Lib.compareInt (a * b) (c * d))) ∧ w = w' := by
  have H1 := Lib.hid (c_sp a b w ha hb)
  have H2 := Lib.hid (c_sp c d w hc hd)
  rw [compare_words]
  generalize a * b / 18446744073709551616 = p at *
  generalize a * b % 18446744073709551616 = q at *
  generalize c * d / 18446744073709551616 = r at *
  generalize c * d % 18446744073709551616 = s at *
  clear ha hb hc hd
  by_cases h : p = r
  · subst h
    rw [if_pos rfl]
    have H3 := Lib.hid (c_cmpU q s w)
    go_enter Tryz.func62, Tryz.ntmps62
    go_wp2_with fail
    refine H1.out.mono ?_
    rintro e w' ⟨rfl, rfl⟩
    go_wp2_with fail
    refine H2.out.mono ?_
    rintro e w' ⟨rfl, rfl⟩
    go_wp2_with fail
    refine H3.out.mono ?_
    rintro e w' ⟨rfl, rfl⟩
    go_wp2
    go_ret
    exact ⟨rfl, rfl⟩
  · rw [if_neg h]
    have H3 := Lib.hid (c_cmpI p r w)
    have h' : (p != r) = true := by rw [bne_iff_ne]; exact h
    go_enter Tryz.func62, Tryz.ntmps62
    go_wp2_with fail
    refine H1.out.mono ?_
    rintro e w' ⟨rfl, rfl⟩
    go_wp2_with fail
    refine H2.out.mono ?_
    rintro e w' ⟨rfl, rfl⟩
    go_wp2_with fail
    refine H3.out.mono ?_
    rintro e w' ⟨rfl, rfl⟩
    go_wp2
    go_ret
    exact ⟨rfl, rfl⟩
set_option maxRecDepth 100000 in
set_option maxHeartbeats 1000000 in
theorem c_nanS (x : ByteArray) (w : World) : Calls Tryz.prog 102 #[.string x] w fun e w' => e = .returned (.bool false) ∧ w = w' := by
  go_enter Tryz.func102, Tryz.ntmps102
  go_wp2
  go_ret
  exact ⟨rfl, rfl⟩
def cmpS (x y : ByteArray) : Int := if Op.bytesLess x.toList y.toList = true then -1 else if (!x.toList == y.toList) = true then 1 else 0
set_option maxRecDepth 100000 in
set_option maxHeartbeats 1000000 in
theorem c_cmpSG (x y : ByteArray) (w : World) : Calls Tryz.prog 63 #[.string x, .string y] w fun e w' => e = .returned (.int .i64 (cmpS x y)) ∧ w = w' := by
  by_cases h1 : Op.bytesLess x.toList y.toList = true
  · rw [show cmpS x y = -1 from if_pos h1]
    go_enter Tryz.func63, Tryz.ntmps63
    go_wp2_with fail
    refine (c_nanS x _).mono ?_
    rintro e w' ⟨rfl, rfl⟩
    go_wp2_with fail
    refine (c_nanS y _).mono ?_
    rintro e w' ⟨rfl, rfl⟩
    go_wp2
    go_ret
    exact ⟨rfl, rfl⟩
  · by_cases h2 : (!x.toList == y.toList) = true
    · rw [show cmpS x y = 1 by unfold cmpS; rw [if_neg h1, if_pos h2]]
      have h1' : Op.bytesLess x.toList y.toList = false := by simpa using h1
      go_enter Tryz.func63, Tryz.ntmps63
      go_wp2_with fail
      refine (c_nanS x _).mono ?_
      rintro e w' ⟨rfl, rfl⟩
      go_wp2_with fail
      refine (c_nanS y _).mono ?_
      rintro e w' ⟨rfl, rfl⟩
      go_wp2
      go_ret
      exact ⟨rfl, rfl⟩
    · rw [show cmpS x y = 0 by unfold cmpS; rw [if_neg h1, if_neg h2]]
      have h1' : Op.bytesLess x.toList y.toList = false := by simpa using h1
      have h2' : (!x.toList == y.toList) = false := by simpa using h2
      go_enter Tryz.func63, Tryz.ntmps63
      go_wp2_with fail
      refine (c_nanS x _).mono ?_
      rintro e w' ⟨rfl, rfl⟩
      go_wp2_with fail
      refine (c_nanS y _).mono ?_
      rintro e w' ⟨rfl, rfl⟩
      go_wp2
      go_ret
      exact ⟨rfl, rfl⟩

/-- How two values compare. -/
def ordV (k n d : Int) (s : ByteArray) (k' n' d' : Int) (s' : ByteArray) : Int :=
  if okB k n d s = true then if okB k' n' d' s' = true then if k = k' then if k = 2 then Lib.compareInt (n * d') (n' * d) else if k = 3 then cmpS s s' else Lib.compareInt n n' else Lib.compareInt k k' else 0 else 0
set_option maxRecDepth 100000 in
set_option maxHeartbeats 2000000 in
theorem o_all (w : World) (k n d : Int) (s : ByteArray) (k' n' d' : Int) (s' : ByteArray) :
    Calls Tryz.prog 24 #[V k n d s, V k' n' d' s'] w fun e w' => e = .returned (.int .i64 (ordV k n d s k' n' d' s')) ∧ Below w.heap.size w w' := by
  have H1 := Lib.hid (fun X => k_valid k n d s X)
  have H2 := Lib.hid (fun X => k_valid k' n' d' s' X)
  by_cases g1 : okB k n d s = true
  · by_cases g2 : okB k' n' d' s' = true
    · by_cases hk : k = k'
      · subst hk
        have f1 := okB_good.1 g1
        have f2 := okB_good.1 g2
        rw [g1] at H1
        rw [g2] at H2
        by_cases k2 : k = 2
        · subst k2
          rw [show ordV 2 n d s 2 n' d' s' = Lib.compareInt (n * d') (n' * d) by simp [ordV, g1, g2]]
          have l1 : Low n d := by cases f1; assumption
          have l2 : Low n' d' := by cases f2; assumption
          have HC := Lib.hid (fun X => c_cp n d' n' d X ⟨l1.1, l1.2.1⟩ ⟨l2.2.2.1, l2.2.2.2.1⟩ ⟨l2.1, l2.2.1⟩ ⟨l1.2.2.1, l1.2.2.2.1⟩)
          generalize Lib.compareInt (n * d') (n' * d) = r at *
          clear g1 g2 f1 f2 l1 l2
          obtain ⟨W, b, b', hW, hb, hb', hlt, hbel, K⟩ := two_box w 2 n d s 2 n' d' s'
          have HW := Lib.hid hW
          have HB := Lib.hid hb
          have HB' := Lib.hid hb'
          have HBE := Lib.hid hbel
          clear hW hb hb' hlt hbel
          go_enter Tryz.func24, Tryz.ntmps24
          go_wp2_with fail
          rw [HW.out, HB'.out, HB.out]
          refine (H1.out W).mono ?_
          rintro e w1 ⟨rfl, hb1⟩
          obtain ⟨⟨a0, a1, a2, a3⟩, ⟨a4, a5, a6, a7⟩⟩ := K.out _ hb1
          go_wp2_with fail
          refine (H2.out w1).mono ?_
          rintro e w2 ⟨rfl, hb2⟩
          have hb12 := btr hb1 hb2
          obtain ⟨⟨c0, c1, c2, c3⟩, ⟨c4, c5, c6, c7⟩⟩ := K.out _ hb12
          clear a0 a1 a2 a3 a4 a5 a6 a7
          go_wp2_with fail
          refine (HC.out w2).mono ?_
          rintro e w3 ⟨rfl, rfl⟩
          go_wp2
          go_ret
          exact ⟨rfl, HBE.out.trans (hb12.mono HBE.out.size)⟩
        · by_cases k3 : k = 3
          · subst k3
            rw [show ordV 3 n d s 3 n' d' s' = cmpS s s' by simp [ordV, g1, g2]]
            have HC := Lib.hid (fun X => c_cmpSG s s' X)
            generalize cmpS s s' = r at *
            clear g1 g2 f1 f2
            obtain ⟨W, b, b', hW, hb, hb', hlt, hbel, K⟩ := two_box w 3 n d s 3 n' d' s'
            have HW := Lib.hid hW
            have HB := Lib.hid hb
            have HB' := Lib.hid hb'
            have HBE := Lib.hid hbel
            clear hW hb hb' hlt hbel
            go_enter Tryz.func24, Tryz.ntmps24
            go_wp2_with fail
            rw [HW.out, HB'.out, HB.out]
            refine (H1.out W).mono ?_
            rintro e w1 ⟨rfl, hb1⟩
            obtain ⟨⟨a0, a1, a2, a3⟩, ⟨a4, a5, a6, a7⟩⟩ := K.out _ hb1
            go_wp2_with fail
            refine (H2.out w1).mono ?_
            rintro e w2 ⟨rfl, hb2⟩
            have hb12 := btr hb1 hb2
            obtain ⟨⟨c0, c1, c2, c3⟩, ⟨c4, c5, c6, c7⟩⟩ := K.out _ hb12
            clear a0 a1 a2 a3 a4 a5 a6 a7
            go_wp2_with fail
            refine (HC.out w2).mono ?_
            rintro e w3 ⟨rfl, rfl⟩
            go_wp2
            go_ret
            exact ⟨rfl, HBE.out.trans (hb12.mono HBE.out.size)⟩
          · rw [show ordV k n d s k n' d' s' = Lib.compareInt n n' by simp [ordV, g1, g2, k2, k3]]
            have HC := Lib.hid (fun X => c_cmpI n n' X)
            generalize Lib.compareInt n n' = r at *
            clear g1 g2 f1 f2
            obtain ⟨W, b, b', hW, hb, hb', hlt, hbel, K⟩ := two_box w k n d s k n' d' s'
            have HW := Lib.hid hW
            have HB := Lib.hid hb
            have HB' := Lib.hid hb'
            have HBE := Lib.hid hbel
            clear hW hb hb' hlt hbel
            go_enter Tryz.func24, Tryz.ntmps24
            go_wp2_with fail
            rw [HW.out, HB'.out, HB.out]
            refine (H1.out W).mono ?_
            rintro e w1 ⟨rfl, hb1⟩
            obtain ⟨⟨a0, a1, a2, a3⟩, ⟨a4, a5, a6, a7⟩⟩ := K.out _ hb1
            go_wp2_with fail
            refine (H2.out w1).mono ?_
            rintro e w2 ⟨rfl, hb2⟩
            have hb12 := btr hb1 hb2
            obtain ⟨⟨c0, c1, c2, c3⟩, ⟨c4, c5, c6, c7⟩⟩ := K.out _ hb12
            clear a0 a1 a2 a3 a4 a5 a6 a7
            go_wp2_with fail
            refine (HC.out w2).mono ?_
            rintro e w3 ⟨rfl, rfl⟩
            go_wp2
            go_ret
            exact ⟨rfl, HBE.out.trans (hb12.mono HBE.out.size)⟩
      · rw [show ordV k n d s k' n' d' s' = Lib.compareInt k k' by simp [ordV, g1, g2, hk]]
        exact o_kinds w k n d s k' n' d' s' (okB_good.1 g1) (okB_good.1 g2) hk
    · have g2' : okB k' n' d' s' = false := by simpa using g2
      rw [show ordV k n d s k' n' d' s' = 0 by simp [ordV, g2']]
      rw [g1] at H1
      rw [g2'] at H2
      clear g1 g2 g2'
      obtain ⟨W, b, b', hW, hb, hb', hlt, hbel, K⟩ := two_box w k n d s k' n' d' s'
      have HW := Lib.hid hW
      have HB := Lib.hid hb
      have HB' := Lib.hid hb'
      have HBE := Lib.hid hbel
      clear hW hb hb' hlt hbel
      go_enter Tryz.func24, Tryz.ntmps24
      go_wp2_with fail
      rw [HW.out, HB'.out, HB.out]
      refine (H1.out W).mono ?_
      rintro e w1 ⟨rfl, hb1⟩
      obtain ⟨⟨a0, a1, a2, a3⟩, ⟨a4, a5, a6, a7⟩⟩ := K.out _ hb1
      go_wp2_with fail
      refine (H2.out w1).mono ?_
      rintro e w2 ⟨rfl, hb2⟩
      have hb12 := btr hb1 hb2
      obtain ⟨⟨c0, c1, c2, c3⟩, ⟨c4, c5, c6, c7⟩⟩ := K.out _ hb12
      clear a0 a1 a2 a3 a4 a5 a6 a7
      go_wp2
      go_ret
      exact ⟨rfl, HBE.out.trans (hb12.mono HBE.out.size)⟩
  · have g1' : okB k n d s = false := by simpa using g1
    rw [show ordV k n d s k' n' d' s' = 0 by simp [ordV, g1']]
    rw [g1'] at H1
    clear g1 g1' H2
    obtain ⟨W, b, b', hW, hb, hb', hlt, hbel, K⟩ := two_box w k n d s k' n' d' s'
    have HW := Lib.hid hW
    have HB := Lib.hid hb
    have HB' := Lib.hid hb'
    have HBE := Lib.hid hbel
    clear hW hb hb' hlt hbel
    go_enter Tryz.func24, Tryz.ntmps24
    go_wp2_with fail
    rw [HW.out, HB'.out, HB.out]
    refine (H1.out W).mono ?_
    rintro e w1 ⟨rfl, hb1⟩
    obtain ⟨⟨a0, a1, a2, a3⟩, ⟨a4, a5, a6, a7⟩⟩ := K.out _ hb1
    go_wp2
    go_ret
    exact ⟨rfl, HBE.out.trans (hb1.mono HBE.out.size)⟩

end Go.Proofs.YthppcklegdnjdaaGreatDoor
end
