/- The reference's joining of two sorted lists. -/
import Derived.Test.YtogmbehomilalaaGreatDoorZRfC
import Derived.Test.YtogmbehomilalaaGreatDoorZSmA
import Derived.Test.YtogmbehomilalaaGreatDoorZExtR

/- The reference's joining of two sorted lists. -/
section
namespace Go.Proofs.YtogmbehomilalaaGreatDoor
open Go Go.RowKit Go.Deep

theorem OwnY.ext {S : Option Addr → Prop} {W : World} {B n : Nat} {v : Value} {T : KyD} {L M : List Nat} (hL : n = L.length) (h : OwnY S W B v n (T.of L)) : OwnY S W B v n (T.of (L ++ M)) := by
  obtain ⟨xs, h1, h2⟩ := h
  refine ⟨xs, h1, fun k hk => ?_⟩
  have eg : (L ++ M)[k]! = L[k]! := getL_left (by omega)
  obtain ⟨P, pc, Q, qc, a1, a2, a3, a4, a5, a6, a7⟩ := h2 k hk
  refine ⟨P, pc, Q, qc, ?_, ?_, ?_, ?_, a5, ?_, ?_⟩
  · show _ = some (Value.slice P (T.ln ((L ++ M)[k]!)) pc); rw [eg]; exact a1
  · show _ = some (Value.slice Q (T.vl ((L ++ M)[k]!)) qc); rw [eg]; exact a2
  · show IntsAt W P (T.ln ((L ++ M)[k]!)) (T.x ((L ++ M)[k]!)); rw [eg]; exact a3
  · show IntsAt W Q (T.vl ((L ++ M)[k]!)) (T.y ((L ++ M)[k]!)); rw [eg]; exact a4
  · show 0 < T.ln ((L ++ M)[k]!) → _; rw [eg]; exact a6
  · show 0 < T.vl ((L ++ M)[k]!) → _; rw [eg]; exact a7
/-- The cells but the first. -/
theorem KyAt.tail {w : World} {b o n : Nat} {T : KyD} {x : Nat} {L : List Nat} (h : KyAt w (some ⟨b, o, none⟩) (n + 1) (T.of (x :: L))) : KyAt w (some ⟨b, o + 2, none⟩) n (T.of L) := fun _ => by
  obtain ⟨b', o', e1, e2, e3⟩ := h (by omega)
  injection e1 with e1
  injection e1 with e4 e5 _
  subst e4 e5
  refine ⟨b, o + 2, rfl, e2, fun k hk => ?_⟩
  obtain ⟨P, c, Q, d, a1, a2, a3, a4, a5⟩ := e3 (k + 1) (by omega)
  refine ⟨P, c, Q, d, ?_, ?_, a3, a4, a5⟩
  · rw [show o + 2 + k * 2 = o + (k + 1) * 2 by omega]; exact a1
  · rw [show o + 2 + k * 2 + 1 = o + (k + 1) * 2 + 1 by omega]; exact a2
/-- Less, by the cells' coordinates. -/
def lessY (T : KyD) (x y : Nat) : Bool := decide (cmpS (T.ln x) (T.ln y) (T.x x) (T.x y) < 0)
def mrgY (T : KyD) (L M : List Nat) : List Nat := List.merge L M fun x y => !lessY T y x
def lenY : Value → Nat
  | .slice _ n _ => n
  | _ => 0

set_option maxRecDepth 100000 in
set_option maxHeartbeats 8000000 in
theorem r_joined (w : World) (A B : Option Addr) (n ca m cb : Nat) (T : KyD) (L M : List Nat) (hL : n = L.length) (hM : m = M.length) (ha : KyAt w A n (T.of L)) (hb : KyAt w B m (T.of M)) (hca : n ≤ ca) (hcb : m ≤ cb) (hn : n ≤ 10000) (hm : m ≤ 10000) (hT : ∀ k, T.ln k ≤ 1000) :
    Calls Tryz.prog 99 #[.slice A n ca, .slice B m cb] w fun e w' => ∃ v, e = .returned v ∧ OwnY (fun _ => True) w' w.heap.size v (n + m) (T.of (mrgY T L M)) ∧ Below w.heap.size w w' := by
  have HA := Lib.hid ha
  have HB := Lib.hid hb
  have HL : Hid (n = L.length) := hL
  have HM : Hid (m = M.length) := hM
  have HT := Lib.hid hT
  clear ha hb hL hM hT
  go_enter Tryz.func99, Tryz.ntmps99
  go_wp2_with fail
  go_loopw [0, 1, 5] (fun a b v wr => ∃ (n1 n2 k : Nat) (A1 B1 : Option Addr) (c1 c2 : Nat) (L1 M1 O : List Nat), a = .slice A1 n1 c1 ∧ b = .slice B1 n2 c2 ∧ n1 ≤ c1 ∧ n2 ≤ c2 ∧ k + n1 + n2 = n + m ∧ Hid (n1 = L1.length) ∧ Hid (n2 = M1.length) ∧ Hid (k = O.length) ∧ Hid (KyAt w A1 n1 (T.of L1)) ∧ Hid (KyAt w B1 n2 (T.of M1)) ∧ Hid (OwnY (fun _ => True) wr w.heap.size v k (T.of O)) ∧ Hid (O ++ mrgY T L1 M1 = mrgY T L M) ∧ Hid (Below w.heap.size w wr)) (fun a b _ _ => lenY a + lenY b)
  case atStart => exact ⟨n, m, 0, A, B, ca, cb, L, M, [], rfl, rfl, hca, hcb, by omega, HL, HM, rfl, HA, HB, OwnY.nil _ _ _ _, rfl, Below.refl _ _⟩
  case round =>
    obtain ⟨n1, n2, k, A1, B1, c1, c2, L1, M1, O, rfl, rfl, hc1, hc2, hk, HL1, HM1, HO, HA1, HB1, HOw, HMr, HBr⟩ := hrel
    obtain ⟨VA, vc, hv, -⟩ := HOw.out.row
    subst hv
    by_cases h1 : 0 < n1
    · by_cases h2 : 0 < n2
      · have i1 : (n1 : Int) > 0 := by omega
        have i2 : (n2 : Int) > 0 := by omega
        obtain ⟨x, L2, hx⟩ : ∃ x L2, L1 = x :: L2 := by
          cases L1 with
          | nil => exact absurd HL1.out (by simp; omega)
          | cons x L2 => exact ⟨x, L2, rfl⟩
        obtain ⟨y, M2, hy⟩ : ∃ y M2, M1 = y :: M2 := by
          cases M1 with
          | nil => exact absurd HM1.out (by simp; omega)
          | cons x L2 => exact ⟨x, L2, rfl⟩
        subst hx hy
        obtain ⟨ba, oa, rfl, hba, hA⟩ := HA1.out h1
        obtain ⟨bb, ob, rfl, hbb, hB⟩ := HB1.out h2
        obtain ⟨P1, pc1, Q1, qc1, a1, a2, a3, a4, a5⟩ := hA 0 h1
        obtain ⟨P2, pc2, Q2, qc2, b1, b2, b3, b4, b5⟩ := hB 0 h2
        have HWA : Hid (∀ W, Below w.heap.size w W → W.cell? ⟨bb, ob, none⟩ = some (.slice P2 (T.ln y) pc2) ∧ W.cell? ⟨ba, oa, none⟩ = some (.slice P1 (T.ln x) pc1)) := fun W hW => by
          have b1' := (hW.cell (p := ⟨bb, ob + 0 * 2, none⟩) hbb).trans b1
          have a1' := (hW.cell (p := ⟨ba, oa + 0 * 2, none⟩) hba).trans a1
          rw [Nat.zero_mul, Nat.add_zero] at b1' a1'
          exact ⟨b1', a1'⟩
        have HWB : Hid (∀ W, Below w.heap.size w W → W.cell? ⟨bb, ob + 1, none⟩ = some (.slice Q2 (T.vl y) qc2) ∧ W.cell? ⟨ba, oa + 1, none⟩ = some (.slice Q1 (T.vl x) qc1)) := fun W hW => by
          have b1' := (hW.cell (p := ⟨bb, ob + 0 * 2 + 1, none⟩) hbb).trans b2
          have a1' := (hW.cell (p := ⟨ba, oa + 0 * 2 + 1, none⟩) hba).trans a2
          rw [Nat.zero_mul, Nat.add_zero] at b1' a1'
          exact ⟨b1', a1'⟩
        have HX : Hid (IntsAt w P1 (T.ln x) (T.x x) ∧ IntsAt w Q1 (T.vl x) (T.y x)) := ⟨a3, a4⟩
        have HY : Hid (IntsAt w P2 (T.ln y) (T.x y) ∧ IntsAt w Q2 (T.vl y) (T.y y)) := ⟨b3, b4⟩
        have HCm : Hid (∀ W, Below w.heap.size w W → Calls Tryz.prog 32 #[.slice P2 (T.ln y) pc2, .slice P1 (T.ln x) pc1] W fun e w' => e = .returned (.int .i64 (cmpS (T.ln y) (T.ln x) (T.x y) (T.x x))) ∧ Below W.heap.size W w') := fun W hW => r_Compare W P2 P1 (T.ln y) pc2 (T.ln x) pc1 _ _ (b3.below hW) (a3.below hW) (by have := HT.out y; omega) (by have := HT.out x; omega)
        have HLs : Hid (lessY T y x = decide (cmpS (T.ln y) (T.ln x) (T.x y) (T.x x) < 0)) := rfl
        obtain ⟨s0, s1⟩ := HWA.out wr HBr.out
        obtain ⟨s2, s3⟩ := HWB.out wr HBr.out
        have q0 : (0 : Int) < (n1 : Int) := by omega
        have q1 : (0 : Int) < (n2 : Int) := by omega
        have B0d : Below w.heap.size w wr.drew := HBr.out.drew
        clear a1 a2 a3 a4 a5 b1 b2 b3 b4 b5 hA hB
        generalize cmpS (T.ln y) (T.ln x) (T.x y) (T.x x) = z at *
        generalize hlx : T.ln x = lx at *
        generalize hvx : T.vl x = vx at *
        have HLx : Hid (lx = T.ln x ∧ vx = T.vl x) := ⟨hlx.symm, hvx.symm⟩
        clear hlx hvx
        generalize hly : T.ln y = ly at *
        generalize hvy : T.vl y = vy at *
        have HLy : Hid (ly = T.ln y ∧ vy = T.vl y) := ⟨hly.symm, hvy.symm⟩
        clear hly hvy
        go_wp2_with fail
        go_region_held3 (fun W => W.cell? ⟨bb, ob, none⟩ = some (.slice P2 ly pc2) ∧ W.cell? ⟨ba, oa, none⟩ = some (.slice P1 lx pc1))
          (first | exact HWA.out _ B0d | exact HWA.out _ HBr.out | exact HWA.out _ HBd.out)
          (first | (go_at_call 32; refine (HCm.out _ B0d).mono ?_; rintro e w7 ⟨rfl, hb7⟩; have HBd : Hid (Below w.heap.size w w7) := B0d.trans (hb7.mono B0d.size); have HOd : Hid (OwnY (fun _ => True) w7 w.heap.size (.slice VA k vc) k (T.of O)) := (HOw.out.below (Below.drew (Below.refl _ _))).below hb7; obtain ⟨s0, s1⟩ := HWA.out w7 HBd.out))
        clear B0d
        obtain ⟨s0, s1⟩ := HWA.out w7 HBd.out
        obtain ⟨s2, s3⟩ := HWB.out w7 HBd.out
        by_cases hz : z < 0
        · have hz9 : decide (z < 0) = true := decide_eq_true hz
          have ey : (O ++ [y])[k]! = y := by rw [HO.out]; simp
          have hq : (w7.alloc (.cells #[.slice P2 ly pc2, .slice Q2 vy qc2] 103)).heap[w7.heap.size]? = some (.cells #[.slice P2 ((T.of (O ++ [y])).ln k) pc2, .slice Q2 ((T.of (O ++ [y])).vl k) qc2] 103 (0, 0)) ∧ IntsAt (w7.alloc (.cells #[.slice P2 ly pc2, .slice Q2 vy qc2] 103)) P2 ((T.of (O ++ [y])).ln k) ((T.of (O ++ [y])).x k) ∧ IntsAt (w7.alloc (.cells #[.slice P2 ly pc2, .slice Q2 vy qc2] 103)) Q2 ((T.of (O ++ [y])).vl k) ((T.of (O ++ [y])).y k) ∧
              ((0 < (T.of (O ++ [y])).ln k → ∀ a, P2 = some a → (Value.slice VA k vc).ownBlock ≠ some a.block) ∧ (0 < (T.of (O ++ [y])).vl k → ∀ a, Q2 = some a → (Value.slice VA k vc).ownBlock ≠ some a.block)) := by
            have hbw := (HBd.out.trans ((bel_nw w7 (.cells #[.slice P2 ly pc2, .slice Q2 vy qc2] 103)).mono HBd.out.size))
            have g0 := heap_alloc_new w7 (.cells #[.slice P2 ly pc2, .slice Q2 vy qc2] 103)
            have g1 := HY.out.1.below hbw
            have g2 := HY.out.2.below hbw
            have g3 : 0 < ly → ∀ a, P2 = some a → (Value.slice VA k vc).ownBlock ≠ some a.block := fun h a ha e => by
              have h8 := HY.out.1.row.lt h ha
              have := (HOd.out.block e).1
              omega
            have g4 : 0 < vy → ∀ a, Q2 = some a → (Value.slice VA k vc).ownBlock ≠ some a.block := fun h a ha e => by
              have h8 := HY.out.2.row.lt h ha
              have := (HOd.out.block e).1
              omega
            show (w7.alloc (.cells #[.slice P2 ly pc2, .slice Q2 vy qc2] 103)).heap[w7.heap.size]? = some (.cells #[.slice P2 (T.ln ((O ++ [y])[k]!)) pc2, .slice Q2 (T.vl ((O ++ [y])[k]!)) qc2] 103 (0, 0)) ∧ IntsAt (w7.alloc (.cells #[.slice P2 ly pc2, .slice Q2 vy qc2] 103)) P2 (T.ln ((O ++ [y])[k]!)) (T.x ((O ++ [y])[k]!)) ∧ IntsAt (w7.alloc (.cells #[.slice P2 ly pc2, .slice Q2 vy qc2] 103)) Q2 (T.vl ((O ++ [y])[k]!)) (T.y ((O ++ [y])[k]!)) ∧ ((0 < T.ln ((O ++ [y])[k]!) → _) ∧ (0 < T.vl ((O ++ [y])[k]!) → _))
            rw [ey, ← HLy.out.1, ← HLy.out.2]
            exact ⟨g0, g1, g2, g3, g4⟩
          have HQ := Lib.hid hq
          have HOe := Lib.hid ((OwnY.ext (M := [y]) HO.out HOd.out).below (bel_nw w7 (.cells #[.slice P2 ly pc2, .slice Q2 vy qc2] 103)))
          have hz4 : w.heap.size ≤ (w7.alloc (.cells #[.slice P2 ly pc2, .slice Q2 vy qc2] 103)).heap.size := by have := HBd.out.size; simp; omega
          have hk9 : k ≤ 1000000 := by omega
          clear hq ey
          go_wp2_with (at_builtin; refine wpList_appY rfl _ _ rfl (w7.alloc (.cells #[.slice P2 ly pc2, .slice Q2 vy qc2] 103)) (fun _ => True) w.heap.size (.slice VA k vc) k (T.of (O ++ [y])) rfl w7.heap.size rfl P2 Q2 pc2 qc2 HQ.out.1 HQ.out.2.1 HQ.out.2.2.1 ⟨trivial, trivial⟩ HQ.out.2.2.2 HOe.out hk9 hz4 ?_; intro v4 w4 hown hgr hat; obtain ⟨A4, c4, hv4, -⟩ := hown.row; subst hv4; have HOn := Lib.hid hown; have HBn : Hid (Below w.heap.size w w4) := (HBd.out.trans ((bel_nw w7 (.cells #[.slice P2 ly pc2, .slice Q2 vy qc2] 103)).mono HBd.out.size)).grown hgr hz4 (fun g hg => (HOe.out.block hg).1); clear hown hgr hat)
          have HMz := HLs.out
          rw [hz9] at HMz
          refine ⟨⟨n1, n2 - 1, k + 1, _, _, c1, c2 - 1, x :: L2, M2, O ++ [y], rfl, rfl, hc1, by omega, by omega, HL1, ?_, ?_, HA1, ?_, HOn, ?_, HBn⟩, ?_⟩
          · show _ = _; have := HM1.out; simp at this; omega
          · show _ = _; have := HO.out; simp; omega
          · show KyAt _ _ _ _
            split
            · exact fun h => absurd h (by omega)
            · have h9 := HB1.out
              rw [show n2 = n2 - 1 + 1 by omega] at h9
              exact h9.tail
          · show _ = _
            rw [← HMr.out, List.append_assoc]
            unfold mrgY
            rw [List.cons_merge_cons, HMz]
            rfl
          · show n1 + (n2 - 1) < n1 + n2; omega
        · have hz9 : decide (z < 0) = false := decide_eq_false hz
          have ey : (O ++ [x])[k]! = x := by rw [HO.out]; simp
          have hq : (w7.alloc (.cells #[.slice P1 lx pc1, .slice Q1 vx qc1] 103)).heap[w7.heap.size]? = some (.cells #[.slice P1 ((T.of (O ++ [x])).ln k) pc1, .slice Q1 ((T.of (O ++ [x])).vl k) qc1] 103 (0, 0)) ∧ IntsAt (w7.alloc (.cells #[.slice P1 lx pc1, .slice Q1 vx qc1] 103)) P1 ((T.of (O ++ [x])).ln k) ((T.of (O ++ [x])).x k) ∧ IntsAt (w7.alloc (.cells #[.slice P1 lx pc1, .slice Q1 vx qc1] 103)) Q1 ((T.of (O ++ [x])).vl k) ((T.of (O ++ [x])).y k) ∧
              ((0 < (T.of (O ++ [x])).ln k → ∀ a, P1 = some a → (Value.slice VA k vc).ownBlock ≠ some a.block) ∧ (0 < (T.of (O ++ [x])).vl k → ∀ a, Q1 = some a → (Value.slice VA k vc).ownBlock ≠ some a.block)) := by
            have hbw := (HBd.out.trans ((bel_nw w7 (.cells #[.slice P1 lx pc1, .slice Q1 vx qc1] 103)).mono HBd.out.size))
            have g0 := heap_alloc_new w7 (.cells #[.slice P1 lx pc1, .slice Q1 vx qc1] 103)
            have g1 := HX.out.1.below hbw
            have g2 := HX.out.2.below hbw
            have g3 : 0 < lx → ∀ a, P1 = some a → (Value.slice VA k vc).ownBlock ≠ some a.block := fun h a ha e => by
              have h8 := HX.out.1.row.lt h ha
              have := (HOd.out.block e).1
              omega
            have g4 : 0 < vx → ∀ a, Q1 = some a → (Value.slice VA k vc).ownBlock ≠ some a.block := fun h a ha e => by
              have h8 := HX.out.2.row.lt h ha
              have := (HOd.out.block e).1
              omega
            show (w7.alloc (.cells #[.slice P1 lx pc1, .slice Q1 vx qc1] 103)).heap[w7.heap.size]? = some (.cells #[.slice P1 (T.ln ((O ++ [x])[k]!)) pc1, .slice Q1 (T.vl ((O ++ [x])[k]!)) qc1] 103 (0, 0)) ∧ IntsAt (w7.alloc (.cells #[.slice P1 lx pc1, .slice Q1 vx qc1] 103)) P1 (T.ln ((O ++ [x])[k]!)) (T.x ((O ++ [x])[k]!)) ∧ IntsAt (w7.alloc (.cells #[.slice P1 lx pc1, .slice Q1 vx qc1] 103)) Q1 (T.vl ((O ++ [x])[k]!)) (T.y ((O ++ [x])[k]!)) ∧ ((0 < T.ln ((O ++ [x])[k]!) → _) ∧ (0 < T.vl ((O ++ [x])[k]!) → _))
            rw [ey, ← HLx.out.1, ← HLx.out.2]
            exact ⟨g0, g1, g2, g3, g4⟩
          have HQ := Lib.hid hq
          have HOe := Lib.hid ((OwnY.ext (M := [x]) HO.out HOd.out).below (bel_nw w7 (.cells #[.slice P1 lx pc1, .slice Q1 vx qc1] 103)))
          have hz4 : w.heap.size ≤ (w7.alloc (.cells #[.slice P1 lx pc1, .slice Q1 vx qc1] 103)).heap.size := by have := HBd.out.size; simp; omega
          have hk9 : k ≤ 1000000 := by omega
          clear hq ey
          go_wp2_with (at_builtin; refine wpList_appY rfl _ _ rfl (w7.alloc (.cells #[.slice P1 lx pc1, .slice Q1 vx qc1] 103)) (fun _ => True) w.heap.size (.slice VA k vc) k (T.of (O ++ [x])) rfl w7.heap.size rfl P1 Q1 pc1 qc1 HQ.out.1 HQ.out.2.1 HQ.out.2.2.1 ⟨trivial, trivial⟩ HQ.out.2.2.2 HOe.out hk9 hz4 ?_; intro v4 w4 hown hgr hat; obtain ⟨A4, c4, hv4, -⟩ := hown.row; subst hv4; have HOn := Lib.hid hown; have HBn : Hid (Below w.heap.size w w4) := (HBd.out.trans ((bel_nw w7 (.cells #[.slice P1 lx pc1, .slice Q1 vx qc1] 103)).mono HBd.out.size)).grown hgr hz4 (fun g hg => (HOe.out.block hg).1); clear hown hgr hat)
          have HMz := HLs.out
          rw [hz9] at HMz
          refine ⟨⟨n1 - 1, n2, k + 1, _, _, c1 - 1, c2, L2, y :: M2, O ++ [x], rfl, rfl, by omega, hc2, by omega, ?_, HM1, ?_, ?_, HB1, HOn, ?_, HBn⟩, ?_⟩
          · show _ = _; have := HL1.out; simp at this; omega
          · show _ = _; have := HO.out; simp; omega
          · show KyAt _ _ _ _
            split
            · exact fun h => absurd h (by omega)
            · have h9 := HA1.out
              rw [show n1 = n1 - 1 + 1 by omega] at h9
              exact h9.tail
          · show _ = _
            rw [← HMr.out, List.append_assoc]
            unfold mrgY
            rw [List.cons_merge_cons, HMz]
            rfl
          · show n1 - 1 + n2 < n1 + n2; omega
      · have i1 : (n1 : Int) > 0 := by omega
        have i2 : ¬ (n2 : Int) > 0 := by omega
        have HF : Hid (O ++ L1 ++ M1 = mrgY T L M) := by
          show _ = _
          have h9 : M1 = [] := List.eq_nil_of_length_eq_zero (by have := HM1.out; omega)
          rw [← HMr.out, h9, List.append_nil]
          unfold mrgY
          rw [List.merge_right]
        have hk3 : k ≤ 1000000 := by omega
        have hk4 : k + n1 ≤ 1000000 := by omega
        have hn1 : n1 ≤ 1000000 := by omega
        have hn2 : n2 ≤ 1000000 := by omega
        have HO4 : Hid (k + n1 = (O ++ L1).length) := by show _ = _; rw [List.length_append, ← HO.out, ← HL1.out]
        go_wp2_with (at_builtin; first
          | (refine wpList_appYs rfl _ _ rfl w w4 w.heap.size (.slice V4 (k + n1) c4) (k + n1) T (O ++ L1) M1 rfl B1 n2 c2 rfl HM1.out HO4.out HB1.out HBn.out (Nat.le_refl _) HOn.out hk4 hn2 HBn.out.size ?_; intro v5 w5 hown5 hgr5; have HBm : Hid (Below w.heap.size w w5) := HBn.out.grown hgr5 HBn.out.size (fun g hg => (HOn.out.block hg).1); have HOm := Lib.hid hown5; clear hgr5 hown5)
          | (refine wpList_appYs rfl _ _ rfl w wr w.heap.size (.slice VA k vc) k T O L1 rfl A1 n1 c1 rfl HL1.out HO.out HA1.out HBr.out (Nat.le_refl _) HOw.out hk3 hn1 HBr.out.size ?_; intro v4 w4 hown hgr; obtain ⟨V4, c4, hv4, -⟩ := hown.row; subst hv4; have HOn := Lib.hid hown; have HBn : Hid (Below w.heap.size w w4) := HBr.out.grown hgr HBr.out.size (fun g hg => (HOw.out.block hg).1); clear hown hgr))
        obtain ⟨V5, c5, hv5, -⟩ := HOm.out.row
        subst hv5
        go_ret
        refine ⟨_, rfl, ?_, HBm.out⟩
        rw [← HF.out, ← hk]
        exact HOm.out
    · have i1 : ¬ (n1 : Int) > 0 := by omega
      have HF : Hid (O ++ L1 ++ M1 = mrgY T L M) := by
        show _ = _
        have h9 : L1 = [] := List.eq_nil_of_length_eq_zero (by have := HL1.out; omega)
        rw [← HMr.out, h9, List.append_nil]
        unfold mrgY
        first | rw [List.nil_merge] | simp
      have hk3 : k ≤ 1000000 := by omega
      have hk4 : k + n1 ≤ 1000000 := by omega
      have hn1 : n1 ≤ 1000000 := by omega
      have hn2 : n2 ≤ 1000000 := by omega
      have HO4 : Hid (k + n1 = (O ++ L1).length) := by show _ = _; rw [List.length_append, ← HO.out, ← HL1.out]
      go_wp2_with (at_builtin; first
        | (refine wpList_appYs rfl _ _ rfl w w4 w.heap.size (.slice V4 (k + n1) c4) (k + n1) T (O ++ L1) M1 rfl B1 n2 c2 rfl HM1.out HO4.out HB1.out HBn.out (Nat.le_refl _) HOn.out hk4 hn2 HBn.out.size ?_; intro v5 w5 hown5 hgr5; have HBm : Hid (Below w.heap.size w w5) := HBn.out.grown hgr5 HBn.out.size (fun g hg => (HOn.out.block hg).1); have HOm := Lib.hid hown5; clear hgr5 hown5)
        | (refine wpList_appYs rfl _ _ rfl w wr w.heap.size (.slice VA k vc) k T O L1 rfl A1 n1 c1 rfl HL1.out HO.out HA1.out HBr.out (Nat.le_refl _) HOw.out hk3 hn1 HBr.out.size ?_; intro v4 w4 hown hgr; obtain ⟨V4, c4, hv4, -⟩ := hown.row; subst hv4; have HOn := Lib.hid hown; have HBn : Hid (Below w.heap.size w w4) := HBr.out.grown hgr HBr.out.size (fun g hg => (HOw.out.block hg).1); clear hown hgr))
      obtain ⟨V5, c5, hv5, -⟩ := HOm.out.row
      subst hv5
      go_ret
      refine ⟨_, rfl, ?_, HBm.out⟩
      rw [← HF.out, ← hk]
      exact HOm.out
end Go.Proofs.YtogmbehomilalaaGreatDoor
end

/- The reference's sorted lists. -/
section
namespace Go.Proofs.YtogmbehomilalaaGreatDoor
open Go Go.RowKit Go.Deep Go.Shelf Go.Sort

theorem OwnY.at2 {S : Option Addr → Prop} {w : World} {B n : Nat} {v : Value} {T : KyD} {L : List Nat} (h : OwnY S w B v n (T.of L)) (hT : ∀ k, T.ln k ≤ 1000) : ∃ A cap, v = .slice A n cap ∧ n ≤ cap ∧ KyAt w A n (T.of L) := by
  obtain ⟨A, cap, h1, h2⟩ := h.row
  refine ⟨A, cap, h1, ?_, fun hn => ?_⟩
  · obtain ⟨xs, ⟨_, h3⟩, _⟩ := h
    rcases h3 with ⟨e, h3⟩ | ⟨g, c9, cur, e, _, _, hc, _⟩
    · rw [h1] at e
      injection e with _ e2 e3
      omega
    · rw [h1] at e
      injection e with _ e2 e3
      omega
  · obtain ⟨b, h3, h4, h5, h6⟩ := h2 hn
    refine ⟨b, 0, h3, h5, fun k hk => ?_⟩
    obtain ⟨P, pc, Q, qc, a1, a2, a3, a4, a5⟩ := h6 k hk
    exact ⟨P, pc, Q, qc, by rw [Nat.zero_add]; exact a1, by rw [Nat.zero_add]; exact a2, a3, a4, hT _⟩
theorem OwnY.lit (w : World) (B : Nat) (hB : B ≤ w.heap.size) (T : KyD) : OwnY (fun _ => True) (w.alloc (.cells #[] 103)) B (.slice (some ⟨w.heap.size, 0, none⟩) 0 0) 0 (T.of []) :=
  ⟨[], ⟨rfl, .inr ⟨w.heap.size, 0, #[], rfl, hB, heap_alloc_new _ _, Nat.le_refl _, Nat.zero_le _, by simp, by simp⟩⟩, fun k hk => absurd hk (by omega)⟩
def InOrdY (T : KyD) (L : List Nat) : Prop := L.Pairwise fun x y => (!lessY T y x) = true
theorem lessY_lt (T : KyD) (d : Nat) (hTd : ∀ k, T.ln k = d) (x y : Nat) : lessY T x y = ltOf (fun x y : Nat => cmpS d d (T.x x) (T.x y)) x y := by
  unfold lessY ltOf
  rw [hTd, hTd]
theorem mrgY_ord (T : KyD) (d : Nat) (hTd : ∀ k, T.ln k = d) (L M : List Nat) (h1 : InOrdY T L) (h2 : InOrdY T M) : InOrdY T (mrgY T L M) := by
  have hs := swo_list d T.x
  refine List.pairwise_merge (le := fun x y => !lessY T y x) (fun x y z h3 h4 => ?_) (fun x y => ?_) L M h1 h2
  · rw [lessY_lt T d hTd] at *
    rw [Bool.not_eq_true'] at *
    exact hs.ntrans _ _ _ h4 h3
  · rw [lessY_lt T d hTd, lessY_lt T d hTd, Bool.or_eq_true, Bool.not_eq_true', Bool.not_eq_true']
    cases e : ltOf (fun x y : Nat => cmpS d d (T.x x) (T.x y)) y x
    · exact .inl rfl
    · cases e2 : ltOf (fun x y : Nat => cmpS d d (T.x x) (T.x y)) x y
      · exact .inr rfl
      · have h9 := hs.trans _ _ _ e e2
        rw [hs.irrefl] at h9
        cases h9
theorem ordY_short (T : KyD) (L : List Nat) (h : L.length < 2) : InOrdY T L := by
  match L, h with
  | [], _ => exact List.Pairwise.nil
  | [x], _ => exact List.pairwise_singleton _ _
theorem KyAt.take {w : World} {A : Option Addr} {n h : Nat} {T : KyD} {L : List Nat} (hc : KyAt w A n (T.of L)) (hh : h ≤ n) (hL : n = L.length) : KyAt w A h (T.of (L.take h)) := fun h0 => by
  obtain ⟨b, o, e1, e2, e3⟩ := hc (by omega)
  refine ⟨b, o, e1, e2, fun k hk => ?_⟩
  obtain ⟨P, c, Q, d, a1, a2, a3, a4, a5⟩ := e3 k (by omega)
  have eg : (L.take h)[k]! = L[k]! := by
    rw [List.getElem!_eq_getElem?_getD, List.getElem!_eq_getElem?_getD, List.getElem?_take_of_lt hk]
  refine ⟨P, c, Q, d, ?_, ?_, ?_, ?_, ?_⟩
  · show _ = some (Value.slice P (T.ln ((L.take h)[k]!)) c); rw [eg]; exact a1
  · show _ = some (Value.slice Q (T.vl ((L.take h)[k]!)) d); rw [eg]; exact a2
  · show IntsAt w P (T.ln ((L.take h)[k]!)) (T.x ((L.take h)[k]!)); rw [eg]; exact a3
  · show IntsAt w Q (T.vl ((L.take h)[k]!)) (T.y ((L.take h)[k]!)); rw [eg]; exact a4
  · show T.ln ((L.take h)[k]!) ≤ 1000; rw [eg]; exact a5
theorem KyAt.drop {w : World} {b o n h : Nat} {T : KyD} {L : List Nat} (hc : KyAt w (some ⟨b, o, none⟩) n (T.of L)) (hh : h ≤ n) (hL : n = L.length) : KyAt w (some ⟨b, o + h * 2, none⟩) (n - h) (T.of (L.drop h)) := fun h0 => by
  obtain ⟨b', o', e1, e2, e3⟩ := hc (by omega)
  injection e1 with e1
  injection e1 with e4 e5 _
  subst e4 e5
  refine ⟨b, _, rfl, e2, fun k hk => ?_⟩
  obtain ⟨P, c, Q, d, a1, a2, a3, a4, a5⟩ := e3 (h + k) (by omega)
  have eg : (L.drop h)[k]! = L[h + k]! := by
    rw [List.getElem!_eq_getElem?_getD, List.getElem!_eq_getElem?_getD, List.getElem?_drop]
  refine ⟨P, c, Q, d, ?_, ?_, ?_, ?_, ?_⟩
  · rw [show o + h * 2 + k * 2 = o + (h + k) * 2 by omega]; show _ = some (Value.slice P (T.ln ((L.drop h)[k]!)) c); rw [eg]; exact a1
  · rw [show o + h * 2 + k * 2 + 1 = o + (h + k) * 2 + 1 by omega]; show _ = some (Value.slice Q (T.vl ((L.drop h)[k]!)) d); rw [eg]; exact a2
  · show IntsAt w P (T.ln ((L.drop h)[k]!)) (T.x ((L.drop h)[k]!)); rw [eg]; exact a3
  · show IntsAt w Q (T.vl ((L.drop h)[k]!)) (T.y ((L.drop h)[k]!)); rw [eg]; exact a4
  · show T.ln ((L.drop h)[k]!) ≤ 1000; rw [eg]; exact a5
set_option maxRecDepth 100000 in
set_option maxHeartbeats 8000000 in
theorem r_sortedY1 (w : World) (A : Option Addr) (n ca : Nat) (h1 : n < 2) :
    Calls Tryz.prog 56 #[.slice A n ca] w fun e w' => e = .returned (.slice A n ca) ∧ Below w.heap.size w w' := by
  have i1 : (n : Int) < 2 := by omega
  go_enter Tryz.func56, Tryz.ntmps56
  go_wp2
  go_ret
  exact ⟨rfl, Below.refl _ _⟩
/-- What Sorted returns. -/
def SoRY (T : KyD) (L : List Nat) (n : Nat) (v : Value) (w' : World) : Prop := ∃ A cap L', v = .slice A n cap ∧ n ≤ cap ∧ L'.Perm L ∧ InOrdY T L' ∧ KyAt w' A n (T.of L')
set_option maxRecDepth 100000 in
set_option maxHeartbeats 8000000 in
theorem r_sortedY2 (w : World) (A : Option Addr) (n ca h : Nat) (T : KyD) (L : List Nat) (d : Nat) (hTd : ∀ k, T.ln k = d) (hL : n = L.length) (ha : KyAt w A n (T.of L)) (h1 : 2 ≤ n) (hca : n ≤ ca) (hn : n ≤ 10000) (hh : h = n / 2) (hT : ∀ k, T.ln k ≤ 1000)
    (ih : ∀ (W : World) (A : Option Addr) (k ca : Nat) (M : List Nat), k < n → k = M.length → KyAt W A k (T.of M) → k ≤ ca → Calls Tryz.prog 56 #[.slice A k ca] W fun e w' => ∃ v, e = .returned v ∧ SoRY T M k v w' ∧ Below W.heap.size W w') :
    Calls Tryz.prog 56 #[.slice A n ca] w fun e w' => ∃ v, e = .returned v ∧ SoRY T L n v w' ∧ Below w.heap.size w w' := by
  have hw : wrap64 ((n : Int) / 2) = (h : Int) := by
    unfold wrap64; omega
  have HI2 : Hid ((n : Int) / 2 = (h : Int)) := by show _ = _; omega
  have i1 : ¬ (n : Int) < 2 := by omega
  have j0 : (0 : Int) ≤ (h : Int) := by omega
  have j1 : (h : Int) ≤ (n : Int) := by omega
  have j2 : (n : Int) ≤ (ca : Int) := by omega
  have j3 : (h : Int) ≤ (ca : Int) := by omega
  have HIH := Lib.hid ih
  have HA := Lib.hid ha
  have HL : Hid (n = L.length) := hL
  obtain ⟨b, o, rfl, _, _⟩ := ha (by omega)
  have H1 : Hid (∀ W, Below w.heap.size w W → Calls Tryz.prog 56 #[.slice (some ⟨b, o, none⟩) h ca] W fun e w' => ∃ v, e = .returned v ∧ SoRY T (L.take h) h v w' ∧ Below W.heap.size W w') := fun W hW => HIH.out W _ h ca (L.take h) (by omega) (by rw [List.length_take]; omega) ((HA.out.take (by omega) HL.out).below hW) (by omega)
  have H2 : Hid (∀ W, Below w.heap.size w W → Calls Tryz.prog 56 #[.slice (some ⟨b, o + h * 2, none⟩) (n - h) (ca - h)] W fun e w' => ∃ v, e = .returned v ∧ SoRY T (L.drop h) (n - h) v w' ∧ Below W.heap.size W w') := fun W hW => HIH.out W _ (n - h) (ca - h) (L.drop h) (by omega) (by rw [List.length_drop]; omega) ((HA.out.drop (by omega) HL.out).below hW) (by omega)
  have HH : Hid (1 ≤ h ∧ h < n) := ⟨by omega, by omega⟩
  clear ih ha hL hh
  have B0d : Below w.heap.size w w.drew := Below.drew (Below.refl _ _)
  have hn7 : h ≤ 10000 := by omega
  have hne : ¬ ca = h := by have := HH.out; omega
  have hne2 : ¬ h = ca := by have := HH.out; omega
  have hn8 : n - h ≤ 10000 := by omega
  go_enter Tryz.func56, Tryz.ntmps56
  go_wp2_with fail
  rw [HI2.out]
  clear hw
  go_region_held3 (fun _ => True)
    (exact trivial)
    (first
      | (go_at_call 99; refine (r_joined w8 A7 A8 h c7 (n - h) c8 T L7 L8 HS7'.out.2.2.2.2 HS8.out.2.2.2.2 HS7'.out.2.2.2.1 HS8.out.2.2.2.1 HS7'.out.1 HS8.out.1 hn7 hn8 hT).mono ?_; rintro e w9 ⟨v9, rfl, hown, hb9⟩; have HOn := Lib.hid hown; have HB9 : Hid (Below w.heap.size w w9) := B8.trans (hb9.mono B8.size); clear hown hb9)
      | (go_at_call 56; refine (H2.out _ B7d).mono ?_; rintro e w8 ⟨v8, rfl, hso8, hb8⟩; obtain ⟨A8, c8, L8, rfl, hc8, hp8, hi8, ha8⟩ := hso8; have HS8 : Hid (n - h ≤ c8 ∧ L8.Perm (L.drop h) ∧ InOrdY T L8 ∧ KyAt w8 A8 (n - h) (T.of L8) ∧ n - h = L8.length) := ⟨hc8, hp8, hi8, ha8, by rw [hp8.length_eq, List.length_drop, ← HL.out]⟩; have B8 : Below w.heap.size w w8 := B7d.trans (hb8.mono B7d.size); have HS7' : Hid (h ≤ c7 ∧ L7.Perm (L.take h) ∧ InOrdY T L7 ∧ KyAt w8 A7 h (T.of L7) ∧ h = L7.length) := ⟨HS7.out.1, HS7.out.2.1, HS7.out.2.2.1, HS7.out.2.2.2.below hb8, by rw [HS7.out.2.1.length_eq, List.length_take, ← HL.out]; have := HH.out; omega⟩; clear hb8 hc8 hp8 hi8 ha8)
      | (go_at_call 56; refine (H1.out _ B0d).mono ?_; rintro e w7 ⟨v7, rfl, hso7, hb7⟩; obtain ⟨A7, c7, L7, rfl, hc7, hp7, hi7, ha7⟩ := hso7; have HS7 : Hid (h ≤ c7 ∧ L7.Perm (L.take h) ∧ InOrdY T L7 ∧ KyAt w7 A7 h (T.of L7)) := ⟨hc7, hp7, hi7, ha7⟩; have B7d : Below w.heap.size w w7 := B0d.trans (hb7.mono B0d.size); clear hb7 hc7 hp7 hi7 ha7))
  obtain ⟨A9, c9, rfl, hc9, ha9⟩ := HOn.out.at2 hT
  have e9 : h + (n - h) = n := by have := HH.out; omega
  have HC9 : Hid (n ≤ c9 ∧ KyAt w9 A9 n (T.of (mrgY T L7 L8))) := by
    rw [e9] at hc9 ha9
    exact ⟨hc9, ha9⟩
  have HP9 : Hid ((mrgY T L7 L8).Perm L ∧ InOrdY T (mrgY T L7 L8)) := by
    refine ⟨?_, mrgY_ord T d hTd L7 L8 HS7'.out.2.2.1 HS8.out.2.2.1⟩
    have h7 := HS7'.out.2.1.append HS8.out.2.1
    rw [List.take_append_drop] at h7
    exact (List.merge_perm_append _).trans h7
  have HE9 := Lib.hid e9
  clear hc9 ha9 e9
  go_wp2
  go_ret
  refine ⟨.slice A9 n c9, ?_, ⟨A9, c9, _, rfl, HC9.out.1, HP9.out.1, HP9.out.2, HC9.out.2⟩, HB9.out⟩
  show Ending.returned (.slice A9 (h + (n - h)) c9) = _
  rw [HE9.out]
theorem r_sortedY (T : KyD) (d : Nat) (hTd : ∀ k, T.ln k = d) (hd : d ≤ 1000) : ∀ (F : Nat) (W : World) (A : Option Addr) (n ca : Nat) (L : List Nat), n ≤ F → n ≤ 10000 → n = L.length → KyAt W A n (T.of L) → n ≤ ca → Calls Tryz.prog 56 #[.slice A n ca] W fun e w' => ∃ v, e = .returned v ∧ SoRY T L n v w' ∧ Below W.heap.size W w' := by
  intro F
  induction F with
  | zero =>
    intro W A n ca L hF hn hL ha hca
    refine (r_sortedY1 W A n ca (by omega)).mono ?_
    rintro e w' ⟨rfl, h2⟩
    exact ⟨_, rfl, ⟨A, ca, L, rfl, hca, List.Perm.refl _, ordY_short T L (by omega), ha.below h2⟩, h2⟩
  | succ F ih =>
    intro W A n ca L hF hn hL ha hca
    by_cases h1 : n < 2
    · refine (r_sortedY1 W A n ca h1).mono ?_
      rintro e w' ⟨rfl, h2⟩
      exact ⟨_, rfl, ⟨A, ca, L, rfl, hca, List.Perm.refl _, ordY_short T L (by omega), ha.below h2⟩, h2⟩
    · exact r_sortedY2 W A n ca (n / 2) T L d hTd hL ha (by omega) hca hn rfl (fun k => by rw [hTd]; exact hd) (fun W A k ca M hk hM hc hka => ih W A k ca M (by omega) (by omega) hM hc hka)
end Go.Proofs.YtogmbehomilalaaGreatDoor
end

/- The reference's keys, which are lists, and the program's, which are numbers: the same order. -/
section
namespace Go.Proofs.YtogmbehomilalaaGreatDoor
open Go Go.RowKit Go.Shelf Go.Sort

theorem ord_cases3 {ord tile : Int} (h : ordB ord tile = true) : ord = 1 ∨ ord = 2 ∨ ord = 3 := by
  unfold ordB at h
  split at h
  · omega
  · split at h
    · omega
    · cases h
/-- The numbers whose bits are the Hilbert key. -/
def hilY (n wd : Nat) (Y : Nat → Nat) : Nat → Nat := xorTo (tW (grayTo (turnsW n (wd - 1) Y) (n - 1) (n - 1)) (wd - 1) 0) (grayTo (turnsW n (wd - 1) Y) (n - 1)) n
theorem hilN_rad (n wd : Nat) (Y : Nat → Nat) : hilN n wd Y = radV (fun _ => 2) (bitL (hilY n wd Y) n wd) (wd * n) := (bits_num _ n wd).symm
/-- How far the t-th coordinates are from the box's first ones. -/
def offN (e : Nat → Nat) (n t k : Nat) : Nat := if k < n then digC e n t k else 0
def keyLen (ord : Int) (n wd : Nat) : Nat := if ord = 2 then wd * n else if ord = 3 then n + n else n
def keyX (ord tile : Int) (n wd : Nat) (e : Nat → Nat) (t j : Nat) : Int :=
  if ord = 2 then ((bitL (hilY n wd (offN e n t)) n wd j : Nat) : Int) else if ord = 3 then (if j < n then ((digC e n t j : Nat) : Int) / tile else ((digC e n t (j - n) : Nat) : Int)) else ((digC e n t j : Nat) : Int)
/-- The program's key. -/
def kyK (ord tile : Int) (lo hi : Nat → Int) (n : Nat) (e : Nat → Nat) (t : Nat) : Int := if ord = 2 then hilK n (wdTo lo hi n) lo e t else if ord = 3 then tlK n lo hi tile e t else rmK n lo hi e t
theorem rm_rad {lo hi : Nat → Int} {e : Nat → Nat} {n t : Nat} (he : ∀ k, k < n → 1 ≤ e k ∧ hi k = lo k + e k - 1) : ∀ m, m ≤ n → rmZ lo hi (fun k => crdZ lo e n t k) m = ((radV e (digC e n t) m : Nat) : Int)
  | 0, _ => rfl
  | m + 1, h => by
    rw [rmZ, radV, rm_rad he m (by omega)]
    have h1 := (he m (by omega)).2
    have h2 : crdZ lo e n t m - lo m = ((digC e n t m : Nat) : Int) := by unfold crdZ; omega
    rw [h2, show hi m - lo m + 1 = ((e m : Nat) : Int) by omega]
    push_cast
    rfl
theorem tl_rad {lo hi : Nat → Int} {e : Nat → Nat} {n t g : Nat} (he : ∀ k, k < n → 1 ≤ e k ∧ hi k = lo k + e k - 1) : ∀ m, m ≤ n → tlZ lo hi (fun k => crdZ lo e n t k) (g : Nat) m = ((radV e (fun k => digC e n t k / g) m : Nat) : Int)
  | 0, _ => rfl
  | m + 1, h => by
    rw [tlZ, radV, tl_rad he m (by omega)]
    have h1 := (he m (by omega)).2
    have h2 : crdZ lo e n t m - lo m = ((digC e n t m : Nat) : Int) := by unfold crdZ; omega
    rw [h2, show hi m - lo m + 1 = ((e m : Nat) : Int) by omega]
    push_cast
    rfl
/-- The product of the first k. -/
def proE (e : Nat → Nat) : Nat → Nat
  | 0 => 1
  | k + 1 => proE e k * e k
theorem cmp_same {a b c d : Int} (h1 : a < b ↔ c < d) (h2 : a = b ↔ c = d) : Lib.compareInt a b = Lib.compareInt c d := by
  unfold Lib.compareInt
  by_cases x : a < b
  · rw [if_pos x, if_pos (h1.1 x)]
  · rw [if_neg x, if_neg (fun h => x (h1.2 h))]
    by_cases y : a = b
    · rw [if_neg (by omega), if_neg (by have := h2.1 y; omega)]
    · rw [if_pos (by omega), if_pos (by have : ¬ c = d := fun h => y (h2.2 h); have : ¬ c < d := fun h => x (h1.2 h); omega)]
theorem lex_lt {T1 T2 r1 r2 V : Nat} (h1 : r1 < V) (h2 : r2 < V) : (T1 * V + r1 < T2 * V + r2 ↔ T1 < T2 ∨ T1 = T2 ∧ r1 < r2) ∧ (T1 * V + r1 = T2 * V + r2 ↔ T1 = T2 ∧ r1 = r2) := by
  rcases Nat.lt_trichotomy T1 T2 with h | h | h
  · have : T1 * V + V ≤ T2 * V := by rw [← Nat.succ_mul]; exact Nat.mul_le_mul_right _ h
    omega
  · subst h; omega
  · have : T2 * V + V ≤ T1 * V := by rw [← Nat.succ_mul]; exact Nat.mul_le_mul_right _ h
    omega
set_option maxRecDepth 100000 in
theorem key_cmp {ord tile : Int} {lo hi : Nat → Int} {e : Nat → Nat} {n s t : Nat} (ho : ordB ord tile = true) (he : ∀ k, k < n → 1 ≤ e k ∧ hi k = lo k + e k - 1) (hv : volC e n 0 ≤ 4096) (hs : s < volC e n 0) (ht : t < volC e n 0) :
    cmpTo (keyX ord tile n (wdTo lo hi n) e s) (keyX ord tile n (wdTo lo hi n) e t) (keyLen ord n (wdTo lo hi n)) (keyLen ord n (wdTo lo hi n)) = Lib.compareInt (kyK ord tile lo hi n e s) (kyK ord tile lo hi n e t) := by
  have hd : ∀ u k, k < n → digC e n u k < e k := fun u k hk => digC_lt (fun k hk => (he k hk).1) hk
  have hr : ∀ u, rmK n lo hi e u = ((radV e (digC e n u) n : Nat) : Int) := fun u => rm_rad he n (Nat.le_refl _)
  have hn : ∀ u, u < volC e n 0 → radV e (digC e n u) n = u := fun u hu => by
    have := rmK_num he hu
    rw [hr] at this
    omega
  rcases ord_cases3 ho with rfl | rfl | rfl
  · show cmpTo _ _ n n = Lib.compareInt (rmK n lo hi e s) (rmK n lo hi e t)
    rw [hr, hr]
    exact rad_cmp n (Nat.le_refl _) fun k hk => ⟨hd s k hk, hd t k hk, rfl, rfl⟩
  · show cmpTo _ _ (wdTo lo hi n * n) (wdTo lo hi n * n) = Lib.compareInt (hilK n (wdTo lo hi n) lo e s) (hilK n (wdTo lo hi n) lo e t)
    have hk : ∀ u, hilK n (wdTo lo hi n) lo e u = ((radV (fun _ => 2) (bitL (hilY n (wdTo lo hi n) (offN e n u)) n (wdTo lo hi n)) (wdTo lo hi n * n) : Nat) : Int) := fun u => by
      unfold hilK
      rw [hilN_rad]
      congr 4
      funext k
      unfold offN
      split
      · rw [crd_dig]
      · rfl
    rw [hk, hk]
    exact rad_cmp _ (Nat.le_refl _) fun k _ => ⟨bitL_lt _ _ _ _, bitL_lt _ _ _ _, rfl, rfl⟩
  · obtain ⟨g, rfl, hg⟩ : ∃ g : Nat, tile = (g : Int) ∧ 1 ≤ g := by
      have h9 : 1 ≤ tile := by
        unfold ordB at ho
        have h8 : 1 ≤ tile ∧ tile ≤ 64 := by simpa using ho
        exact h8.1
      exact ⟨tile.toNat, by omega, by omega⟩
    show cmpTo _ _ (n + n) (n + n) = Lib.compareInt (tlK n lo hi g e s) (tlK n lo hi g e t)
    have hq : ∀ u k, k < n → digC e n u k / g < e k := fun u k hk => Nat.lt_of_le_of_lt (Nat.div_le_self _ _) (hd u k hk)
    have hV : ∀ u, radV e (digC e n u) n < proE e n := fun u => radV_lt (V := proE e) rfl n fun k hk => ⟨hd u k hk, rfl⟩
    have ht2 : ∀ u, radV (fun j => if j < n then e j else e (j - n)) (fun j => if j < n then digC e n u j / g else digC e n u (j - n)) (n + n) = radV e (fun k => digC e n u k / g) n * proE e n + radV e (digC e n u) n := fun u => radV_two (V := proE e) rfl n fun k _ => rfl
    have hk : ∀ u, tlK n lo hi g e u = ((radV e (fun k => digC e n u k / g) n * 4096 + radV e (digC e n u) n : Nat) : Int) := fun u => by
      unfold tlK
      rw [rm_rad he n (Nat.le_refl _), tl_rad he n (Nat.le_refl _)]
      push_cast
      rfl
    have hc := rad_cmp (m := n + n) (e := fun j => if j < n then e j else e (j - n)) (a := fun j => if j < n then digC e n s j / g else digC e n s (j - n)) (b := fun j => if j < n then digC e n t j / g else digC e n t (j - n)) (f := keyX 3 g n (wdTo lo hi n) e s) (g := keyX 3 g n (wdTo lo hi n) e t) (n + n) (Nat.le_refl _) (fun k hk => by
      have hf : ∀ u, keyX 3 (g : Int) n (wdTo lo hi n) e u k = if k < n then ((digC e n u k : Nat) : Int) / (g : Int) else ((digC e n u (k - n) : Nat) : Int) := fun u => by
        unfold keyX
        rw [if_neg (by decide), if_pos rfl]
      rw [hf, hf]
      by_cases h : k < n
      · simp only [if_pos h]
        exact ⟨hq s k h, hq t k h, by push_cast; rfl, by push_cast; rfl⟩
      · simp only [if_neg h]
        exact ⟨hd s _ (by omega), hd t _ (by omega), trivial, trivial⟩)
    rw [hc, hk, hk, ht2, ht2]
    have l1 := lex_lt (T1 := radV e (fun k => digC e n s k / g) n) (T2 := radV e (fun k => digC e n t k / g) n) (hV s) (hV t)
    have l2 := lex_lt (T1 := radV e (fun k => digC e n s k / g) n) (T2 := radV e (fun k => digC e n t k / g) n) (V := 4096) (r1 := radV e (digC e n s) n) (r2 := radV e (digC e n t) n) (by rw [hn s hs]; omega) (by rw [hn t ht]; omega)
    refine cmp_same ?_ ?_
    · rw [Int.ofNat_lt, Int.ofNat_lt, l1.1, l2.1]
    · rw [Int.ofNat_inj, Int.ofNat_inj, l1.2, l2.2]
/-- There is one order by keys no two of which are alike. -/
theorem ord_uniq {ky : Nat → Int} {N : Nat} (hinj : ∀ s t, s < N → t < N → ky s = ky t → s = t) {L : List Nat} (hp : L.Perm (List.range N)) (hL : L.Pairwise fun x y => ky x ≤ ky y) : ∀ j, j < N → L[j]! = ((pairR ky N)[j]!).2 := by
  obtain ⟨hs, hq, hle⟩ := pair_facts ky N
  have hlen : (pairR ky N).toList.length = N := by simpa using hs
  have hQ : ((pairR ky N).toList.map Prod.snd).Perm (List.range N) := by
    refine (hq.map _).trans ?_
    rw [pairD_list, List.map_map]
    exact List.Perm.of_eq (List.map_id _)
  have hk : ∀ j, j < N → ((pairR ky N)[j]!).1 = ky ((pairR ky N)[j]!).2 := fun j hj => by
    obtain ⟨t, ht, e⟩ := pairR_of ky N j hj
    rw [e]
  have hw : ((pairR ky N).toList.map Prod.snd).Pairwise fun x y => ky x ≤ ky y := by
    refine List.pairwise_iff_getElem.2 fun i j hi hj hij => ?_
    rw [List.length_map, hlen] at hi hj
    have := hle i j hij hj
    rw [hk i hi, hk j hj] at this
    simp only [List.getElem_map]
    rw [pair_get, pair_get]
    exact this
  have hE : L = (pairR ky N).toList.map Prod.snd := List.Perm.eq_of_pairwise (le := fun x y => ky x ≤ ky y) (fun a b ha hb h1 h2 => hinj a b (List.mem_range.1 (hp.mem_iff.1 ha)) (List.mem_range.1 (hQ.mem_iff.1 hb)) (by omega)) hL hw (hp.trans hQ.symm)
  intro j hj
  rw [hE, getElem!_pos _ j (by rw [List.length_map, hlen]; exact hj), List.getElem_map, pair_get]
end Go.Proofs.YtogmbehomilalaaGreatDoor
end
