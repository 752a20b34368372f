/- The value of any number, and the number of any value. -/
import Derived.Test.YtnfncdalneifnaaGreatDoorZRatV
import Derived.Test.YtnfncdalneifnaaGreatDoorZNum
import Derived.Lib.Replace
import Derived.Lib.CountLaws
import Derived.Test.YtnfncdalneifnaaGreatDoorZInv
import Derived.Test.YtnfncdalneifnaaGreatDoorZFmt
import Derived.Test.YtnfncdalneifnaaGreatDoorZOrd
import Derived.Test.YtnfncdalneifnaaGreatDoorShelf

/- The value of any number, and the number of any value. -/
section
namespace Go.Proofs.YtnfncdalneifnaaGreatDoor
open Go Go.RowKit Go.Deep

instance instLow (n d : Int) : Decidable (Low n d) := by unfold Low; infer_instance
/-- The number of a value. -/
def qV (n d : Int) : Rat := if h : Low n d then ⟨n, d.natAbs, by have := h.2.2.1; omega, h.2.2.2.2⟩ else 0
theorem qV_num {n d : Int} (h : Low n d) : (qV n d).num = n := by unfold qV; rw [dif_pos h]
theorem qV_den {n d : Int} (h : Low n d) : (qV n d).den = d.natAbs := by unfold qV; rw [dif_pos h]
theorem sgn_num (n : Int) : sgn (decide (n < 0)) n.natAbs = decide (n < 0) := by
  unfold sgn
  by_cases h : n < 0
  · rw [decide_eq_true h, Bool.true_and, decide_eq_true_iff]; omega
  · rw [decide_eq_false h]; rfl
theorem v_rat (w : World) (n d : Int) (h : Low n d) : Calls Tryz.prog 57 #[V 2 n d noS] w (RatVRet w (qV n d)) := by
  refine (c_rat w n d h).mono ?_
  rintro e w' ⟨u, rfl, hu, hb⟩
  exact ⟨u, rfl, hu.toV (by rw [qV_num h, sgn_num]) (by rw [qV_num h]) (by rw [qV_den h]), hb⟩
theorem ratW_qV {n d : Int} (h : Low n d) : RatW (qV n d) 1 := by
  have h1 := qV_num h
  have h2 := qV_den h
  obtain ⟨a, b, c, e, _⟩ := h
  refine ⟨?_, ?_⟩
  · rw [h1, nw_le_one]; unfold W64; omega
  · rw [h2, nw_le_one]; unfold W64; omega

def Small (q : Rat) : Prop := q.num.natAbs ≤ 1099511627776 ∧ q.den ≤ 1099511627776
instance (q : Rat) : Decidable (Small q) := by unfold Small; infer_instance
def valK (q : Rat) : Int := if Small q then 2 else 0
def valN (q : Rat) : Int := if Small q then q.num else 2
def valD (q : Rat) : Int := if Small q then q.den else 0
theorem nat_at0 {w : World} {v : Value} {x : Nat} (h : NatAt w v x) (hx : 0 < x) : ∃ A c b o, v = .slice A (nw x) c ∧ A = some ⟨b, o, none⟩ ∧ b < w.heap.size ∧ w.cell? ⟨b, o, none⟩ = some (U (dig x 0)) := by
  obtain ⟨A, c, rfl, _, _, h3⟩ := h
  obtain ⟨b, o, e1, e2, e3⟩ := h3 ((nw_pos x).2 hx)
  exact ⟨A, c, b, o, rfl, e1, e2, by have := e3 0 ((nw_pos x).2 hx); rwa [Nat.add_zero] at this⟩

theorem row_v {X : World} {b : Nat} {k n d : Int} {s : ByteArray} (h : X.heap[b]? = some (.cells #[.int .i64 k, .int .i64 n, .int .i64 d, .string s] 25 (0, 0))) :
    X.cell? ⟨b, 0, none⟩ = some (.int .i64 k) ∧ X.cell? ⟨b, 1, none⟩ = some (.int .i64 n) ∧ X.cell? ⟨b, 2, none⟩ = some (.int .i64 d) ∧ X.cell? ⟨b, 3, none⟩ = some (.string s) := by
  refine ⟨?_, ?_, ?_, ?_⟩ <;> (rw [cell_of_row _ _ _ _ _ _ h]; rfl)

set_option maxRecDepth 100000 in
set_option maxHeartbeats 4000000 in
theorem v_Value (w : World) (x : Value) (q : Rat) (h : RatV w x q) :
    Calls Tryz.prog 109 #[x] w fun e w' => e = .returned (V (valK q) (valN q) (valD q) noS) ∧ Below w.heap.size w w' := by
  have HV := Lib.hid (fun W (hW : Below w.heap.size w W) => c_valid W x _ _ _ (h.below hW))
  have hd0 := q.den_pos
  have hsg := Int.natAbs_natCast
  obtain ⟨b, nv, dv, rfl, hlt, _, c1, c2, c3, hn, hd⟩ := h
  have HN := Lib.hid hn
  obtain ⟨A, c, rfl, _, _, _⟩ := hn
  obtain ⟨A', c', bd, od, rfl, rfl, hbd, cd⟩ := nat_at0 hd hd0
  clear hd hsg
  have HR0 := Lib.hid (heap_alloc_new w (.cells #[.int .i64 0, .int .i64 0, .int .i64 0, .string ⟨#[]⟩] 25))
  have HC : Hid (∀ W, Below w.heap.size w W → W.cell? ⟨b, 1, none⟩ = some (.bool (decide (q.num < 0))) ∧ W.cell? ⟨b, 2, none⟩ = some (.slice A (nw q.num.natAbs) c) ∧ W.cell? ⟨b, 3, none⟩ = some (.slice (some ⟨bd, od, none⟩) (nw q.den) c') ∧ W.cell? ⟨bd, od, none⟩ = some (U (dig q.den 0))) := fun W hW =>
    ⟨(hW.cell (p := ⟨b, 1, none⟩) hlt).trans c1, (hW.cell (p := ⟨b, 2, none⟩) hlt).trans c2, (hW.cell (p := ⟨b, 3, none⟩) hlt).trans c3, (hW.cell (p := ⟨bd, od, none⟩) hbd).trans cd⟩
  have HA : Hid (∀ W, Below w.heap.size w W → Calls Tryz.prog 90 #[.slice A (nw q.num.natAbs) c, .int .i64 0] W fun e w' => e = .returned (U (dig q.num.natAbs 0)) ∧ W = w') := fun W hW => n_at W (.slice A (nw q.num.natAbs) c) q.num.natAbs 0 (HN.out.below hW)
  clear c1 c2 c3 cd HN hbd
  by_cases hs : Small q
  · rw [show valK q = 2 from if_pos hs, show valN q = q.num from if_pos hs, show valD q = q.den from if_pos hs]
    obtain ⟨s1, s2⟩ := hs
    have n1 : nw q.num.natAbs ≤ 1 := (nw_le_one _).2 (by unfold W64; omega)
    have n2 : nw q.den = 1 := nw_one _ hd0 (by unfold W64; omega)
    rw [dig_small _ (show q.num.natAbs < W64 by unfold W64; omega)] at HA
    rw [dig_small _ (show q.den < W64 by unfold W64; omega), n2] at HC
    clear n2
    generalize nw q.num.natAbs = m at *
    have hnum : (decide (q.num < 0) = true ∧ q.num = -(q.num.natAbs : Int)) ∨ (decide (q.num < 0) = false ∧ q.num = (q.num.natAbs : Int)) := by
      by_cases h9 : q.num < 0
      · exact .inl ⟨decide_eq_true h9, by omega⟩
      · exact .inr ⟨decide_eq_false h9, by omega⟩
    generalize q.num.natAbs = n at *
    generalize q.den = d at *
    generalize decide (q.num < 0) = sg at *
    generalize q.num = qn at *
    go_enter Tryz.func109, Tryz.ntmps109
    go_wp2_with fail
    generalize HW : w.alloc (.cells #[.int .i64 0, .int .i64 0, .int .i64 0, .string ⟨#[]⟩] 25) = W0 at *
    have B0 : Below w.heap.size w W0 := by rw [← HW]; exact (Below.refl _ _).alloc (Nat.le_refl _) _
    have hz0 : w.heap.size < W0.heap.size := by rw [← HW]; simp
    clear HW
    refine (HV.out _ B0).mono ?_
    rintro e w' ⟨rfl, rfl⟩
    obtain ⟨c1, c2, c3, cd⟩ := HC.out _ B0
    clear HV
    go_wp2_with fail
    refine (HA.out _ B0).mono ?_
    rintro e w' ⟨rfl, rfl⟩
    go_wp2_with fail
    have HK : Hid (∀ W, Below W0.heap.size W0 W → W.cell? ⟨b, 2, none⟩ = some (.slice A m c) ∧ W.cell? ⟨b, 3, none⟩ = some (.slice (some ⟨bd, od, none⟩) 1 c') ∧ W.cell? ⟨bd, od, none⟩ = some (U d)) := fun W hW => (HC.out W (btr B0 hW)).2
    have HA2 : Hid (∀ W, Below W0.heap.size W0 W → Calls Tryz.prog 90 #[.slice A m c, .int .i64 0] W fun e w' => e = .returned (U n) ∧ W = w') := fun W hW => HA.out W (btr B0 hW)
    have B1 : Below W0.heap.size W0 W0.drew := Below.drew (Below.refl _ _)
    have H1 : Hid (∀ W, Below W0.heap.size W0 W → W.cell? ⟨b, 1, none⟩ = some (.bool sg)) := fun W hW => (HC.out W (btr B0 hW)).1
    have e1 : IntKind.i64.wrap (n : Int) = n := by rw [IntKind.wrap_i64]; omega
    have e2 : IntKind.i64.wrap (d : Int) = d := by rw [IntKind.wrap_i64]; omega
    clear c1 c2 c3 cd HC HA
    go_region_held3 (fun w' => w'.cell? ⟨b, 2, none⟩ = some (.slice A m c) ∧ w'.cell? ⟨b, 3, none⟩ = some (.slice (some ⟨bd, od, none⟩) 1 c') ∧ w'.cell? ⟨bd, od, none⟩ = some (U d))
      (first | exact HK.out _ B1 | exact HK.out _ (B1.alloc (Nat.le_refl _) _) | exact HK.out _ (Below.refl _ _))
      (first
        | (go_at_call 90; refine (HA2.out _ (by first | exact B1 | exact B1.alloc (Nat.le_refl _) _)).mono ?_; rintro e w' ⟨rfl, rfl⟩))
    all_goals

      have hv := heap_alloc_new W0 (.cells #[.int .i64 2, .int .i64 n, .int .i64 d, .string ⟨#[]⟩] 25)
      have bV : Below W0.heap.size W0 (W0.alloc (.cells #[.int .i64 2, .int .i64 n, .int .i64 d, .string ⟨#[]⟩] 25)).drew := Below.drew ((Below.refl _ _).alloc (Nat.le_refl _) _)
      have hv' : (W0.alloc (.cells #[.int .i64 2, .int .i64 n, .int .i64 d, .string ⟨#[]⟩] 25)).drew.heap[W0.heap.size]? = some (.cells #[.int .i64 2, .int .i64 n, .int .i64 d, .string ⟨#[]⟩] 25 (0, 0)) := hv
      clear hv
      generalize (W0.alloc (.cells #[.int .i64 2, .int .i64 n, .int .i64 d, .string ⟨#[]⟩] 25)).drew = X at *
      obtain ⟨r0, r1, r2, r3⟩ := row_v hv'
      have q1 := H1.out _ bV
      have f1 : X.frozen? ⟨W0.heap.size, 1, none⟩ = false := by simp [World.frozen?, hv']
      have hr := (bV.block _ hz0).trans HR0.out
      rcases hnum with ⟨rfl, rfl⟩ | ⟨rfl, rfl⟩
      · have hr' : (X.setCell ⟨W0.heap.size, 1, none⟩ (.int .i64 (-(n : Int)))).heap[w.heap.size]? = some (.cells #[.int .i64 0, .int .i64 0, .int .i64 0, .string ⟨#[]⟩] 25 (0, 0)) := (Below.heap_setCell X ⟨W0.heap.size, 1, none⟩ _ _ (by show w.heap.size ≠ W0.heap.size; omega)).trans hr
        obtain ⟨t0, t1, t2, t3, g0, g1, g2, g3⟩ := res_at hr'
        have HR := Lib.hid hr'
        have BX : Hid (Below w.heap.size w (X.setCell ⟨W0.heap.size, 1, none⟩ (.int .i64 (-(n : Int))))) := (btr B0 bV).setCell (p := ⟨W0.heap.size, 1, none⟩) (by show w.heap.size ≤ W0.heap.size; omega) _
        clear hr hr' hv' bV
        go_wp2
        exact bodyPost_ret (v := V 2 (-(n : Int)) d noS) (results_cell_row Tryz.results109 _ _ w.heap.size 25 _ (0, 0) _ rfl (put4 HR.out _ _ _ _) Tryz.underlying25 rfl (by rw [info_v4]; rfl)) rfl ⟨rfl, below4 BX.out _ (Nat.le_refl _) _ _ _ _⟩
      · obtain ⟨t0, t1, t2, t3, g0, g1, g2, g3⟩ := res_at hr
        have HR := Lib.hid hr
        have BX : Hid (Below w.heap.size w X) := btr B0 bV
        clear hr hv' bV
        go_wp2
        exact bodyPost_ret (v := V 2 (n : Int) d noS) (results_cell_row Tryz.results109 _ _ w.heap.size 25 _ (0, 0) _ rfl (put4 HR.out _ _ _ _) Tryz.underlying25 rfl (by rw [info_v4]; rfl)) rfl ⟨rfl, below4 BX.out _ (Nat.le_refl _) _ _ _ _⟩
  · rw [show valK q = 0 from if_neg hs, show valN q = 2 from if_neg hs, show valD q = 0 from if_neg hs]
    by_cases m1 : nw q.num.natAbs ≤ 1
    · by_cases m2 : nw q.den ≤ 1
      · have n2 : nw q.den = 1 := nw_one _ hd0 ((nw_le_one _).1 m2)
        rw [dig_small _ ((nw_le_one _).1 m1)] at HA
        rw [dig_small _ ((nw_le_one _).1 m2), n2] at HC
        have w1 := (nw_le_one _).1 m1
        have w2 := (nw_le_one _).1 m2
        by_cases h1 : q.num.natAbs ≤ 1099511627776
        · have h2 : (1099511627776 : Int) < (q.den : Int) := by
            have : ¬ q.den ≤ 1099511627776 := fun h9 => hs ⟨h1, h9⟩
            omega
          clear hs n2 m2 w1 w2
          generalize nw q.num.natAbs = m at *
          generalize q.num.natAbs = n at *
          generalize q.den = d at *
          generalize decide (q.num < 0) = sg at *
          go_enter Tryz.func109, Tryz.ntmps109
          go_wp2_with fail
          generalize HW : w.alloc (.cells #[.int .i64 0, .int .i64 0, .int .i64 0, .string ⟨#[]⟩] 25) = W0 at *
          have B0 : Below w.heap.size w W0 := by rw [← HW]; exact (Below.refl _ _).alloc (Nat.le_refl _) _
          have hz0 : w.heap.size < W0.heap.size := by rw [← HW]; simp
          clear HW
          refine (HV.out _ B0).mono ?_
          rintro e w' ⟨rfl, rfl⟩
          obtain ⟨c1, c2, c3, cd⟩ := HC.out _ B0
          clear HV c1
          go_wp2_with fail
          refine (HA.out _ B0).mono ?_
          rintro e w' ⟨rfl, rfl⟩
          clear HA HC
          go_wp2_with fail
          refine (c_missing 2 _).mono ?_
          rintro e w1 ⟨rfl, hb1⟩
          have hh1 := (hb1.block _ hz0).trans HR0.out
          obtain ⟨r0, r1, r2, r3, f0, f1, f2, f3⟩ := res_at hh1
          have HH1 := Lib.hid hh1
          clear hh1 c2 c3 cd
          go_wp2
          exact bodyPost_ret (v := V 0 2 0 noS) (results_cell_row Tryz.results109 _ _ w.heap.size 25 _ (0, 0) _ rfl (put4 HH1.out _ _ _ _) Tryz.underlying25 rfl (by rw [info_v4]; rfl)) rfl ⟨rfl, below4 (btr B0 hb1) _ (Nat.le_refl _) _ _ _ _⟩
        · have h2 : (1099511627776 : Int) < (q.num.natAbs : Int) := by omega
          clear hs n2 m2 w1 w2 h1
          generalize nw q.num.natAbs = m at *
          generalize q.num.natAbs = n at *
          generalize q.den = d at *
          generalize decide (q.num < 0) = sg at *
          go_enter Tryz.func109, Tryz.ntmps109
          go_wp2_with fail
          generalize HW : w.alloc (.cells #[.int .i64 0, .int .i64 0, .int .i64 0, .string ⟨#[]⟩] 25) = W0 at *
          have B0 : Below w.heap.size w W0 := by rw [← HW]; exact (Below.refl _ _).alloc (Nat.le_refl _) _
          have hz0 : w.heap.size < W0.heap.size := by rw [← HW]; simp
          clear HW
          refine (HV.out _ B0).mono ?_
          rintro e w' ⟨rfl, rfl⟩
          obtain ⟨c1, c2, c3, cd⟩ := HC.out _ B0
          clear HV c1
          go_wp2_with fail
          refine (HA.out _ B0).mono ?_
          rintro e w' ⟨rfl, rfl⟩
          clear HA HC
          go_wp2_with fail
          refine (c_missing 2 _).mono ?_
          rintro e w1 ⟨rfl, hb1⟩
          have hh1 := (hb1.block _ hz0).trans HR0.out
          obtain ⟨r0, r1, r2, r3, f0, f1, f2, f3⟩ := res_at hh1
          have HH1 := Lib.hid hh1
          clear hh1 c2 c3 cd
          go_wp2
          exact bodyPost_ret (v := V 0 2 0 noS) (results_cell_row Tryz.results109 _ _ w.heap.size 25 _ (0, 0) _ rfl (put4 HH1.out _ _ _ _) Tryz.underlying25 rfl (by rw [info_v4]; rfl)) rfl ⟨rfl, below4 (btr B0 hb1) _ (Nat.le_refl _) _ _ _ _⟩
      · have h2 : (1 : Int) < (nw q.den : Int) := by omega
        clear hs m2
        generalize nw q.num.natAbs = m at *
        generalize nw q.den = m' at *
        generalize dig q.num.natAbs 0 = n at *
        generalize dig q.den 0 = d at *
        generalize decide (q.num < 0) = sg at *
        go_enter Tryz.func109, Tryz.ntmps109
        go_wp2_with fail
        generalize HW : w.alloc (.cells #[.int .i64 0, .int .i64 0, .int .i64 0, .string ⟨#[]⟩] 25) = W0 at *
        have B0 : Below w.heap.size w W0 := by rw [← HW]; exact (Below.refl _ _).alloc (Nat.le_refl _) _
        have hz0 : w.heap.size < W0.heap.size := by rw [← HW]; simp
        clear HW
        refine (HV.out _ B0).mono ?_
        rintro e w' ⟨rfl, rfl⟩
        obtain ⟨c1, c2, c3, cd⟩ := HC.out _ B0
        clear HV c1
        clear HA HC
        go_wp2_with fail
        refine (c_missing 2 _).mono ?_
        rintro e w1 ⟨rfl, hb1⟩
        have hh1 := (hb1.block _ hz0).trans HR0.out
        obtain ⟨r0, r1, r2, r3, f0, f1, f2, f3⟩ := res_at hh1
        have HH1 := Lib.hid hh1
        clear hh1 c2 c3 cd
        go_wp2
        exact bodyPost_ret (v := V 0 2 0 noS) (results_cell_row Tryz.results109 _ _ w.heap.size 25 _ (0, 0) _ rfl (put4 HH1.out _ _ _ _) Tryz.underlying25 rfl (by rw [info_v4]; rfl)) rfl ⟨rfl, below4 (btr B0 hb1) _ (Nat.le_refl _) _ _ _ _⟩
    · have h2 : (1 : Int) < (nw q.num.natAbs : Int) := by omega
      clear hs m1
      generalize nw q.num.natAbs = m at *
      generalize nw q.den = m' at *
      generalize dig q.num.natAbs 0 = n at *
      generalize dig q.den 0 = d at *
      generalize decide (q.num < 0) = sg at *
      go_enter Tryz.func109, Tryz.ntmps109
      go_wp2_with fail
      generalize HW : w.alloc (.cells #[.int .i64 0, .int .i64 0, .int .i64 0, .string ⟨#[]⟩] 25) = W0 at *
      have B0 : Below w.heap.size w W0 := by rw [← HW]; exact (Below.refl _ _).alloc (Nat.le_refl _) _
      have hz0 : w.heap.size < W0.heap.size := by rw [← HW]; simp
      clear HW
      refine (HV.out _ B0).mono ?_
      rintro e w' ⟨rfl, rfl⟩
      obtain ⟨c1, c2, c3, cd⟩ := HC.out _ B0
      clear HV c1
      clear HA HC
      go_wp2_with fail
      refine (c_missing 2 _).mono ?_
      rintro e w1 ⟨rfl, hb1⟩
      have hh1 := (hb1.block _ hz0).trans HR0.out
      obtain ⟨r0, r1, r2, r3, f0, f1, f2, f3⟩ := res_at hh1
      have HH1 := Lib.hid hh1
      clear hh1 c2 c3 cd
      go_wp2
      exact bodyPost_ret (v := V 0 2 0 noS) (results_cell_row Tryz.results109 _ _ w.heap.size 25 _ (0, 0) _ rfl (put4 HH1.out _ _ _ _) Tryz.underlying25 rfl (by rw [info_v4]; rfl)) rfl ⟨rfl, below4 (btr B0 hb1) _ (Nat.le_refl _) _ _ _ _⟩
end Go.Proofs.YtnfncdalneifnaaGreatDoor
end

/- Plain lists of bytes: a text with its quotes doubled. No condition. -/
section
namespace Go.Proofs.YtnfncdalneifnaaGreatDoor
end Go.Proofs.YtnfncdalneifnaaGreatDoor
end

/- What Check and Print return of a value; the variables of values. -/
section
namespace Go.Proofs.YtnfncdalneifnaaGreatDoor
open Go.RowKit Go.Deep

def errB (b : Bool) : Int := if b then 0 else 2
/-- The variable of a result that is a value, as the call begins. -/
theorem valz_box (w : World) : ∃ W, w.alloc (.cells #[.int .i64 0, .int .i64 0, .int .i64 0, .string ⟨#[]⟩] 25) = W ∧ Below w.heap.size w W ∧ W.heap.size = w.heap.size + 1 ∧
    Hid (∀ W', Below W.heap.size W W' → W'.heap[w.heap.size]? = some (.cells #[.int .i64 0, .int .i64 0, .int .i64 0, .string ⟨#[]⟩] 25 (0, 0))) := by
  refine ⟨_, rfl, (Below.refl _ _).alloc (Nat.le_refl _) _, by simp, fun W' hW => ?_⟩
  exact (hW.block _ (by simp)).trans (heap_alloc_new w _)

theorem vals_box (w : World) (k n d : Int) (s : ByteArray) (k' n' d' : Int) (s' : ByteArray) : ∃ W0 W1, w.alloc (.cells #[.int .i64 k, .int .i64 n, .int .i64 d, .string s] 25) = W0 ∧ W0.alloc (.cells #[.int .i64 k', .int .i64 n', .int .i64 d', .string s'] 25) = W1 ∧ W0.heap.size = w.heap.size + 1 ∧ Below w.heap.size w W1 ∧
    Hid (∀ W', Below W1.heap.size W1 W' → (W'.cell? ⟨w.heap.size, 0, none⟩ = some (.int .i64 k) ∧ W'.cell? ⟨w.heap.size, 1, none⟩ = some (.int .i64 n) ∧ W'.cell? ⟨w.heap.size, 2, none⟩ = some (.int .i64 d) ∧ W'.cell? ⟨w.heap.size, 3, none⟩ = some (.string s)) ∧
      (W'.cell? ⟨w.heap.size + 1, 0, none⟩ = some (.int .i64 k') ∧ W'.cell? ⟨w.heap.size + 1, 1, none⟩ = some (.int .i64 n') ∧ W'.cell? ⟨w.heap.size + 1, 2, none⟩ = some (.int .i64 d') ∧ W'.cell? ⟨w.heap.size + 1, 3, none⟩ = some (.string s'))) := by
  obtain ⟨W, b, b', hW, hb, hb', hlt, hbel, K⟩ := two_box w k n d s k' n' d' s'
  subst hb hb'
  exact ⟨_, W, rfl, hW, by simp, hbel, K⟩

end Go.Proofs.YtnfncdalneifnaaGreatDoor
end

/- The program's Number, Check and Print, whatever the value. -/
section
namespace Go.Proofs.YtnfncdalneifnaaGreatDoor
open Go.RowKit Go.Deep

theorem kinds_of (k n d : Int) (s : ByteArray) (w : World) : ∃ W, w.alloc (.cells #[.int .i64 k, .int .i64 n, .int .i64 d, .string s] 25) = W ∧ Below w.heap.size w W ∧
    Hid (∀ W', Below W.heap.size W W' → W'.cell? ⟨w.heap.size, 0, none⟩ = some (.int .i64 k) ∧ W'.cell? ⟨w.heap.size, 1, none⟩ = some (.int .i64 n) ∧ W'.cell? ⟨w.heap.size, 2, none⟩ = some (.int .i64 d) ∧ W'.cell? ⟨w.heap.size, 3, none⟩ = some (.string s)) := by
  obtain ⟨W, b, hW, hb, hlt, hbel, K⟩ := box_facts w k n d s
  subst hb
  exact ⟨W, hW, hbel, K⟩

end Go.Proofs.YtnfncdalneifnaaGreatDoor
end
