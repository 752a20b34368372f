/- The reference's merging of two lists of cells. -/
import Derived.Test.YtogmbehomilalaaGreatDoorZRfC
import Derived.Test.YtogmbehomilalaaGreatDoorZSmA
import Derived.Test.YtogmbehomilalaaGreatDoorZSch

/- The reference's merging of two lists of cells. -/
section
namespace Go.Proofs.YtogmbehomilalaaGreatDoor
open Go Go.RowKit Go.Deep

theorem OwnC.ext {S : Option Addr → Prop} {W : World} {B n : Nat} {v : Value} {T : CeD} {L M : List Nat} (hL : n = L.length) (h : OwnC S W B v n (T.of L)) : OwnC S W B v n (T.of (L ++ M)) := by
  obtain ⟨xs, h1, h2⟩ := h
  refine ⟨xs, h1, fun k hk => ?_⟩
  have eg : (L ++ M)[k]! = L[k]! := getL_left (by omega)
  obtain ⟨P, pc, Q, qc, a1, a2, a3, a4, a5, a6, a7⟩ := h2 k hk
  refine ⟨P, pc, Q, qc, ?_, ?_, ?_, ?_, a5, ?_, ?_⟩
  · show _ = some (Value.slice P (T.ln ((L ++ M)[k]!)) pc); rw [eg]; exact a1
  · show _ = some (Value.slice Q (T.vl ((L ++ M)[k]!)) qc); rw [eg]; exact a2
  · show IntsAt W P (T.ln ((L ++ M)[k]!)) (T.x ((L ++ M)[k]!)); rw [eg]; exact a3
  · show ValsAt W Q (T.vl ((L ++ M)[k]!)) (T.vk ((L ++ M)[k]!)) (T.vn ((L ++ M)[k]!)) (T.vd ((L ++ M)[k]!)) (T.vs ((L ++ M)[k]!)); rw [eg]; exact a4
  · show 0 < T.ln ((L ++ M)[k]!) → _; rw [eg]; exact a6
  · show 0 < T.vl ((L ++ M)[k]!) → _; rw [eg]; exact a7
/-- The cells but the first. -/
theorem CeAt.tail {w : World} {b o n : Nat} {T : CeD} {x : Nat} {L : List Nat} (h : CeAt w (some ⟨b, o, none⟩) (n + 1) (T.of (x :: L))) : CeAt w (some ⟨b, o + 2, none⟩) n (T.of L) := fun _ => by
  obtain ⟨b', o', e1, e2, e3⟩ := h (by omega)
  injection e1 with e1
  injection e1 with e4 e5 _
  subst e4 e5
  refine ⟨b, o + 2, rfl, e2, fun k hk => ?_⟩
  obtain ⟨P, c, Q, d, a1, a2, a3, a4, a5⟩ := e3 (k + 1) (by omega)
  refine ⟨P, c, Q, d, ?_, ?_, a3, a4, a5⟩
  · rw [show o + 2 + k * 2 = o + (k + 1) * 2 by omega]; exact a1
  · rw [show o + 2 + k * 2 + 1 = o + (k + 1) * 2 + 1 by omega]; exact a2
/-- Less, by the cells' coordinates. -/
def lessC (T : CeD) (x y : Nat) : Bool := decide (cmpS (T.ln x) (T.ln y) (T.x x) (T.x y) < 0)
def mrgC (T : CeD) (L M : List Nat) : List Nat := List.merge L M fun x y => !lessC T y x
def lenS : Value → Nat
  | .slice _ n _ => n
  | _ => 0

set_option maxRecDepth 100000 in
set_option maxHeartbeats 8000000 in
theorem r_merged (w : World) (A B : Option Addr) (n ca m cb : Nat) (T : CeD) (L M : List Nat) (hL : n = L.length) (hM : m = M.length) (ha : CeAt w A n (T.of L)) (hb : CeAt w B m (T.of M)) (hca : n ≤ ca) (hcb : m ≤ cb) (hn : n ≤ 10000) (hm : m ≤ 10000) (hT : ∀ k, T.ln k ≤ 1000) :
    Calls Tryz.prog 74 #[.slice A n ca, .slice B m cb] w fun e w' => ∃ v, e = .returned v ∧ OwnC (fun _ => True) w' w.heap.size v (n + m) (T.of (mrgC T L M)) ∧ Below w.heap.size w w' := by
  have HA := Lib.hid ha
  have HB := Lib.hid hb
  have HL : Hid (n = L.length) := hL
  have HM : Hid (m = M.length) := hM
  have HT := Lib.hid hT
  clear ha hb hL hM hT
  go_enter Tryz.func74, Tryz.ntmps74
  go_wp2_with fail
  go_loopw [0, 1, 5] (fun a b v wr => ∃ (n1 n2 k : Nat) (A1 B1 : Option Addr) (c1 c2 : Nat) (L1 M1 O : List Nat), a = .slice A1 n1 c1 ∧ b = .slice B1 n2 c2 ∧ n1 ≤ c1 ∧ n2 ≤ c2 ∧ k + n1 + n2 = n + m ∧ Hid (n1 = L1.length) ∧ Hid (n2 = M1.length) ∧ Hid (k = O.length) ∧ Hid (CeAt w A1 n1 (T.of L1)) ∧ Hid (CeAt w B1 n2 (T.of M1)) ∧ Hid (OwnC (fun _ => True) wr w.heap.size v k (T.of O)) ∧ Hid (O ++ mrgC T L1 M1 = mrgC T L M) ∧ Hid (Below w.heap.size w wr)) (fun a b _ _ => lenS a + lenS b)
  case atStart => exact ⟨n, m, 0, A, B, ca, cb, L, M, [], rfl, rfl, hca, hcb, by omega, HL, HM, rfl, HA, HB, OwnC.nil _ _ _ _, rfl, Below.refl _ _⟩
  case round =>
    obtain ⟨n1, n2, k, A1, B1, c1, c2, L1, M1, O, rfl, rfl, hc1, hc2, hk, HL1, HM1, HO, HA1, HB1, HOw, HMr, HBr⟩ := hrel
    obtain ⟨VA, vc, hv, -⟩ := HOw.out.row
    subst hv
    by_cases h1 : 0 < n1
    · by_cases h2 : 0 < n2
      · have i1 : (n1 : Int) > 0 := by omega
        have i2 : (n2 : Int) > 0 := by omega
        obtain ⟨x, L2, hx⟩ : ∃ x L2, L1 = x :: L2 := by
          cases L1 with
          | nil => exact absurd HL1.out (by simp; omega)
          | cons x L2 => exact ⟨x, L2, rfl⟩
        obtain ⟨y, M2, hy⟩ : ∃ y M2, M1 = y :: M2 := by
          cases M1 with
          | nil => exact absurd HM1.out (by simp; omega)
          | cons x L2 => exact ⟨x, L2, rfl⟩
        subst hx hy
        obtain ⟨ba, oa, rfl, hba, hA⟩ := HA1.out h1
        obtain ⟨bb, ob, rfl, hbb, hB⟩ := HB1.out h2
        obtain ⟨P1, pc1, Q1, qc1, a1, a2, a3, a4, a5⟩ := hA 0 h1
        obtain ⟨P2, pc2, Q2, qc2, b1, b2, b3, b4, b5⟩ := hB 0 h2
        have HWA : Hid (∀ W, Below w.heap.size w W → W.cell? ⟨bb, ob, none⟩ = some (.slice P2 (T.ln y) pc2) ∧ W.cell? ⟨ba, oa, none⟩ = some (.slice P1 (T.ln x) pc1)) := fun W hW => by
          have b1' := (hW.cell (p := ⟨bb, ob + 0 * 2, none⟩) hbb).trans b1
          have a1' := (hW.cell (p := ⟨ba, oa + 0 * 2, none⟩) hba).trans a1
          rw [Nat.zero_mul, Nat.add_zero] at b1' a1'
          exact ⟨b1', a1'⟩
        have HWB : Hid (∀ W, Below w.heap.size w W → W.cell? ⟨bb, ob + 1, none⟩ = some (.slice Q2 (T.vl y) qc2) ∧ W.cell? ⟨ba, oa + 1, none⟩ = some (.slice Q1 (T.vl x) qc1)) := fun W hW => by
          have b1' := (hW.cell (p := ⟨bb, ob + 0 * 2 + 1, none⟩) hbb).trans b2
          have a1' := (hW.cell (p := ⟨ba, oa + 0 * 2 + 1, none⟩) hba).trans a2
          rw [Nat.zero_mul, Nat.add_zero] at b1' a1'
          exact ⟨b1', a1'⟩
        have HX : Hid (IntsAt w P1 (T.ln x) (T.x x) ∧ ValsAt w Q1 (T.vl x) (T.vk x) (T.vn x) (T.vd x) (T.vs x)) := ⟨a3, a4⟩
        have HY : Hid (IntsAt w P2 (T.ln y) (T.x y) ∧ ValsAt w Q2 (T.vl y) (T.vk y) (T.vn y) (T.vd y) (T.vs y)) := ⟨b3, b4⟩
        have HCm : Hid (∀ W, Below w.heap.size w W → Calls Tryz.prog 32 #[.slice P2 (T.ln y) pc2, .slice P1 (T.ln x) pc1] W fun e w' => e = .returned (.int .i64 (cmpS (T.ln y) (T.ln x) (T.x y) (T.x x))) ∧ Below W.heap.size W w') := fun W hW => r_Compare W P2 P1 (T.ln y) pc2 (T.ln x) pc1 _ _ (b3.below hW) (a3.below hW) (by have := HT.out y; omega) (by have := HT.out x; omega)
        have HLs : Hid (lessC T y x = decide (cmpS (T.ln y) (T.ln x) (T.x y) (T.x x) < 0)) := rfl
        obtain ⟨s0, s1⟩ := HWA.out wr HBr.out
        obtain ⟨s2, s3⟩ := HWB.out wr HBr.out
        have q0 : (0 : Int) < (n1 : Int) := by omega
        have q1 : (0 : Int) < (n2 : Int) := by omega
        have B0d : Below w.heap.size w wr.drew := HBr.out.drew
        clear a1 a2 a3 a4 a5 b1 b2 b3 b4 b5 hA hB
        generalize cmpS (T.ln y) (T.ln x) (T.x y) (T.x x) = z at *
        generalize hlx : T.ln x = lx at *
        generalize hvx : T.vl x = vx at *
        have HLx : Hid (lx = T.ln x ∧ vx = T.vl x) := ⟨hlx.symm, hvx.symm⟩
        clear hlx hvx
        generalize hly : T.ln y = ly at *
        generalize hvy : T.vl y = vy at *
        have HLy : Hid (ly = T.ln y ∧ vy = T.vl y) := ⟨hly.symm, hvy.symm⟩
        clear hly hvy
        go_wp2_with fail
        go_region_held3 (fun W => W.cell? ⟨bb, ob, none⟩ = some (.slice P2 ly pc2) ∧ W.cell? ⟨ba, oa, none⟩ = some (.slice P1 lx pc1))
          (first | exact HWA.out _ B0d | exact HWA.out _ HBr.out | exact HWA.out _ HBd.out)
          (first | (go_at_call 32; refine (HCm.out _ B0d).mono ?_; rintro e w7 ⟨rfl, hb7⟩; have HBd : Hid (Below w.heap.size w w7) := B0d.trans (hb7.mono B0d.size); have HOd : Hid (OwnC (fun _ => True) w7 w.heap.size (.slice VA k vc) k (T.of O)) := (HOw.out.below (Below.drew (Below.refl _ _))).below hb7; obtain ⟨s0, s1⟩ := HWA.out w7 HBd.out))
        clear B0d
        obtain ⟨s0, s1⟩ := HWA.out w7 HBd.out
        obtain ⟨s2, s3⟩ := HWB.out w7 HBd.out
        by_cases hz : z < 0
        · have hz9 : decide (z < 0) = true := decide_eq_true hz
          have ey : (O ++ [y])[k]! = y := by rw [HO.out]; simp
          have hq : (w7.alloc (.cells #[.slice P2 ly pc2, .slice Q2 vy qc2] 38)).heap[w7.heap.size]? = some (.cells #[.slice P2 ((T.of (O ++ [y])).ln k) pc2, .slice Q2 ((T.of (O ++ [y])).vl k) qc2] 38 (0, 0)) ∧ IntsAt (w7.alloc (.cells #[.slice P2 ly pc2, .slice Q2 vy qc2] 38)) P2 ((T.of (O ++ [y])).ln k) ((T.of (O ++ [y])).x k) ∧ ValsAt (w7.alloc (.cells #[.slice P2 ly pc2, .slice Q2 vy qc2] 38)) Q2 ((T.of (O ++ [y])).vl k) ((T.of (O ++ [y])).vk k) ((T.of (O ++ [y])).vn k) ((T.of (O ++ [y])).vd k) ((T.of (O ++ [y])).vs k) ∧
              ((0 < (T.of (O ++ [y])).ln k → ∀ a, P2 = some a → (Value.slice VA k vc).ownBlock ≠ some a.block) ∧ (0 < (T.of (O ++ [y])).vl k → ∀ a, Q2 = some a → (Value.slice VA k vc).ownBlock ≠ some a.block)) := by
            have hbw := (HBd.out.trans ((bel_nw w7 (.cells #[.slice P2 ly pc2, .slice Q2 vy qc2] 38)).mono HBd.out.size))
            have g0 := heap_alloc_new w7 (.cells #[.slice P2 ly pc2, .slice Q2 vy qc2] 38)
            have g1 := HY.out.1.below hbw
            have g2 := HY.out.2.below hbw
            have g3 : 0 < ly → ∀ a, P2 = some a → (Value.slice VA k vc).ownBlock ≠ some a.block := fun h a ha e => by
              have h8 := HY.out.1.row.lt h ha
              have := (HOd.out.block e).1
              omega
            have g4 : 0 < vy → ∀ a, Q2 = some a → (Value.slice VA k vc).ownBlock ≠ some a.block := fun h a ha e => by
              have h8 := HY.out.2.row.lt h ha
              have := (HOd.out.block e).1
              omega
            show (w7.alloc (.cells #[.slice P2 ly pc2, .slice Q2 vy qc2] 38)).heap[w7.heap.size]? = some (.cells #[.slice P2 (T.ln ((O ++ [y])[k]!)) pc2, .slice Q2 (T.vl ((O ++ [y])[k]!)) qc2] 38 (0, 0)) ∧ IntsAt (w7.alloc (.cells #[.slice P2 ly pc2, .slice Q2 vy qc2] 38)) P2 (T.ln ((O ++ [y])[k]!)) (T.x ((O ++ [y])[k]!)) ∧ ValsAt (w7.alloc (.cells #[.slice P2 ly pc2, .slice Q2 vy qc2] 38)) Q2 (T.vl ((O ++ [y])[k]!)) (T.vk ((O ++ [y])[k]!)) (T.vn ((O ++ [y])[k]!)) (T.vd ((O ++ [y])[k]!)) (T.vs ((O ++ [y])[k]!)) ∧ ((0 < T.ln ((O ++ [y])[k]!) → _) ∧ (0 < T.vl ((O ++ [y])[k]!) → _))
            rw [ey, ← HLy.out.1, ← HLy.out.2]
            exact ⟨g0, g1, g2, g3, g4⟩
          have HQ := Lib.hid hq
          have HOe := Lib.hid ((OwnC.ext (M := [y]) HO.out HOd.out).below (bel_nw w7 (.cells #[.slice P2 ly pc2, .slice Q2 vy qc2] 38)))
          have hz4 : w.heap.size ≤ (w7.alloc (.cells #[.slice P2 ly pc2, .slice Q2 vy qc2] 38)).heap.size := by have := HBd.out.size; simp; omega
          have hk9 : k ≤ 1000000 := by omega
          clear hq ey
          go_wp2_with (at_builtin; refine wpList_appC rfl _ _ rfl (w7.alloc (.cells #[.slice P2 ly pc2, .slice Q2 vy qc2] 38)) (fun _ => True) w.heap.size (.slice VA k vc) k (T.of (O ++ [y])) rfl w7.heap.size rfl P2 Q2 pc2 qc2 HQ.out.1 HQ.out.2.1 HQ.out.2.2.1 ⟨trivial, trivial⟩ HQ.out.2.2.2 HOe.out hk9 hz4 ?_; intro v4 w4 hown hgr hat; obtain ⟨A4, c4, hv4, -⟩ := hown.row; subst hv4; have HOn := Lib.hid hown; have HBn : Hid (Below w.heap.size w w4) := (HBd.out.trans ((bel_nw w7 (.cells #[.slice P2 ly pc2, .slice Q2 vy qc2] 38)).mono HBd.out.size)).grown hgr hz4 (fun g hg => (HOe.out.block hg).1); clear hown hgr hat)
          have HMz := HLs.out
          rw [hz9] at HMz
          refine ⟨⟨n1, n2 - 1, k + 1, _, _, c1, c2 - 1, x :: L2, M2, O ++ [y], rfl, rfl, hc1, by omega, by omega, HL1, ?_, ?_, HA1, ?_, HOn, ?_, HBn⟩, ?_⟩
          · show _ = _; have := HM1.out; simp at this; omega
          · show _ = _; have := HO.out; simp; omega
          · show CeAt _ _ _ _
            split
            · exact fun h => absurd h (by omega)
            · have h9 := HB1.out
              rw [show n2 = n2 - 1 + 1 by omega] at h9
              exact h9.tail
          · show _ = _
            rw [← HMr.out, List.append_assoc]
            unfold mrgC
            rw [List.cons_merge_cons, HMz]
            rfl
          · show n1 + (n2 - 1) < n1 + n2; omega
        · have hz9 : decide (z < 0) = false := decide_eq_false hz
          have ey : (O ++ [x])[k]! = x := by rw [HO.out]; simp
          have hq : (w7.alloc (.cells #[.slice P1 lx pc1, .slice Q1 vx qc1] 38)).heap[w7.heap.size]? = some (.cells #[.slice P1 ((T.of (O ++ [x])).ln k) pc1, .slice Q1 ((T.of (O ++ [x])).vl k) qc1] 38 (0, 0)) ∧ IntsAt (w7.alloc (.cells #[.slice P1 lx pc1, .slice Q1 vx qc1] 38)) P1 ((T.of (O ++ [x])).ln k) ((T.of (O ++ [x])).x k) ∧ ValsAt (w7.alloc (.cells #[.slice P1 lx pc1, .slice Q1 vx qc1] 38)) Q1 ((T.of (O ++ [x])).vl k) ((T.of (O ++ [x])).vk k) ((T.of (O ++ [x])).vn k) ((T.of (O ++ [x])).vd k) ((T.of (O ++ [x])).vs k) ∧
              ((0 < (T.of (O ++ [x])).ln k → ∀ a, P1 = some a → (Value.slice VA k vc).ownBlock ≠ some a.block) ∧ (0 < (T.of (O ++ [x])).vl k → ∀ a, Q1 = some a → (Value.slice VA k vc).ownBlock ≠ some a.block)) := by
            have hbw := (HBd.out.trans ((bel_nw w7 (.cells #[.slice P1 lx pc1, .slice Q1 vx qc1] 38)).mono HBd.out.size))
            have g0 := heap_alloc_new w7 (.cells #[.slice P1 lx pc1, .slice Q1 vx qc1] 38)
            have g1 := HX.out.1.below hbw
            have g2 := HX.out.2.below hbw
            have g3 : 0 < lx → ∀ a, P1 = some a → (Value.slice VA k vc).ownBlock ≠ some a.block := fun h a ha e => by
              have h8 := HX.out.1.row.lt h ha
              have := (HOd.out.block e).1
              omega
            have g4 : 0 < vx → ∀ a, Q1 = some a → (Value.slice VA k vc).ownBlock ≠ some a.block := fun h a ha e => by
              have h8 := HX.out.2.row.lt h ha
              have := (HOd.out.block e).1
              omega
            show (w7.alloc (.cells #[.slice P1 lx pc1, .slice Q1 vx qc1] 38)).heap[w7.heap.size]? = some (.cells #[.slice P1 (T.ln ((O ++ [x])[k]!)) pc1, .slice Q1 (T.vl ((O ++ [x])[k]!)) qc1] 38 (0, 0)) ∧ IntsAt (w7.alloc (.cells #[.slice P1 lx pc1, .slice Q1 vx qc1] 38)) P1 (T.ln ((O ++ [x])[k]!)) (T.x ((O ++ [x])[k]!)) ∧ ValsAt (w7.alloc (.cells #[.slice P1 lx pc1, .slice Q1 vx qc1] 38)) Q1 (T.vl ((O ++ [x])[k]!)) (T.vk ((O ++ [x])[k]!)) (T.vn ((O ++ [x])[k]!)) (T.vd ((O ++ [x])[k]!)) (T.vs ((O ++ [x])[k]!)) ∧ ((0 < T.ln ((O ++ [x])[k]!) → _) ∧ (0 < T.vl ((O ++ [x])[k]!) → _))
            rw [ey, ← HLx.out.1, ← HLx.out.2]
            exact ⟨g0, g1, g2, g3, g4⟩
          have HQ := Lib.hid hq
          have HOe := Lib.hid ((OwnC.ext (M := [x]) HO.out HOd.out).below (bel_nw w7 (.cells #[.slice P1 lx pc1, .slice Q1 vx qc1] 38)))
          have hz4 : w.heap.size ≤ (w7.alloc (.cells #[.slice P1 lx pc1, .slice Q1 vx qc1] 38)).heap.size := by have := HBd.out.size; simp; omega
          have hk9 : k ≤ 1000000 := by omega
          clear hq ey
          go_wp2_with (at_builtin; refine wpList_appC rfl _ _ rfl (w7.alloc (.cells #[.slice P1 lx pc1, .slice Q1 vx qc1] 38)) (fun _ => True) w.heap.size (.slice VA k vc) k (T.of (O ++ [x])) rfl w7.heap.size rfl P1 Q1 pc1 qc1 HQ.out.1 HQ.out.2.1 HQ.out.2.2.1 ⟨trivial, trivial⟩ HQ.out.2.2.2 HOe.out hk9 hz4 ?_; intro v4 w4 hown hgr hat; obtain ⟨A4, c4, hv4, -⟩ := hown.row; subst hv4; have HOn := Lib.hid hown; have HBn : Hid (Below w.heap.size w w4) := (HBd.out.trans ((bel_nw w7 (.cells #[.slice P1 lx pc1, .slice Q1 vx qc1] 38)).mono HBd.out.size)).grown hgr hz4 (fun g hg => (HOe.out.block hg).1); clear hown hgr hat)
          have HMz := HLs.out
          rw [hz9] at HMz
          refine ⟨⟨n1 - 1, n2, k + 1, _, _, c1 - 1, c2, L2, y :: M2, O ++ [x], rfl, rfl, by omega, hc2, by omega, ?_, HM1, ?_, ?_, HB1, HOn, ?_, HBn⟩, ?_⟩
          · show _ = _; have := HL1.out; simp at this; omega
          · show _ = _; have := HO.out; simp; omega
          · show CeAt _ _ _ _
            split
            · exact fun h => absurd h (by omega)
            · have h9 := HA1.out
              rw [show n1 = n1 - 1 + 1 by omega] at h9
              exact h9.tail
          · show _ = _
            rw [← HMr.out, List.append_assoc]
            unfold mrgC
            rw [List.cons_merge_cons, HMz]
            rfl
          · show n1 - 1 + n2 < n1 + n2; omega
      · have i1 : (n1 : Int) > 0 := by omega
        have i2 : ¬ (n2 : Int) > 0 := by omega
        have HF : Hid (O ++ L1 ++ M1 = mrgC T L M) := by
          show _ = _
          have h9 : M1 = [] := List.eq_nil_of_length_eq_zero (by have := HM1.out; omega)
          rw [← HMr.out, h9, List.append_nil]
          unfold mrgC
          rw [List.merge_right]
        have hk3 : k ≤ 1000000 := by omega
        have hk4 : k + n1 ≤ 1000000 := by omega
        have hn1 : n1 ≤ 1000000 := by omega
        have hn2 : n2 ≤ 1000000 := by omega
        have HO4 : Hid (k + n1 = (O ++ L1).length) := by show _ = _; rw [List.length_append, ← HO.out, ← HL1.out]
        go_wp2_with (at_builtin; first
          | (refine wpList_appCs rfl _ _ rfl w w4 w.heap.size (.slice V4 (k + n1) c4) (k + n1) T (O ++ L1) M1 rfl B1 n2 c2 rfl HM1.out HO4.out HB1.out HBn.out (Nat.le_refl _) HOn.out hk4 hn2 HBn.out.size ?_; intro v5 w5 hown5 hgr5; have HBm : Hid (Below w.heap.size w w5) := HBn.out.grown hgr5 HBn.out.size (fun g hg => (HOn.out.block hg).1); have HOm := Lib.hid hown5; clear hgr5 hown5)
          | (refine wpList_appCs rfl _ _ rfl w wr w.heap.size (.slice VA k vc) k T O L1 rfl A1 n1 c1 rfl HL1.out HO.out HA1.out HBr.out (Nat.le_refl _) HOw.out hk3 hn1 HBr.out.size ?_; intro v4 w4 hown hgr; obtain ⟨V4, c4, hv4, -⟩ := hown.row; subst hv4; have HOn := Lib.hid hown; have HBn : Hid (Below w.heap.size w w4) := HBr.out.grown hgr HBr.out.size (fun g hg => (HOw.out.block hg).1); clear hown hgr))
        obtain ⟨V5, c5, hv5, -⟩ := HOm.out.row
        subst hv5
        go_ret
        refine ⟨_, rfl, ?_, HBm.out⟩
        rw [← HF.out, ← hk]
        exact HOm.out
    · have i1 : ¬ (n1 : Int) > 0 := by omega
      have HF : Hid (O ++ L1 ++ M1 = mrgC T L M) := by
        show _ = _
        have h9 : L1 = [] := List.eq_nil_of_length_eq_zero (by have := HL1.out; omega)
        rw [← HMr.out, h9, List.append_nil]
        unfold mrgC
        first | rw [List.nil_merge] | simp
      have hk3 : k ≤ 1000000 := by omega
      have hk4 : k + n1 ≤ 1000000 := by omega
      have hn1 : n1 ≤ 1000000 := by omega
      have hn2 : n2 ≤ 1000000 := by omega
      have HO4 : Hid (k + n1 = (O ++ L1).length) := by show _ = _; rw [List.length_append, ← HO.out, ← HL1.out]
      go_wp2_with (at_builtin; first
        | (refine wpList_appCs rfl _ _ rfl w w4 w.heap.size (.slice V4 (k + n1) c4) (k + n1) T (O ++ L1) M1 rfl B1 n2 c2 rfl HM1.out HO4.out HB1.out HBn.out (Nat.le_refl _) HOn.out hk4 hn2 HBn.out.size ?_; intro v5 w5 hown5 hgr5; have HBm : Hid (Below w.heap.size w w5) := HBn.out.grown hgr5 HBn.out.size (fun g hg => (HOn.out.block hg).1); have HOm := Lib.hid hown5; clear hgr5 hown5)
        | (refine wpList_appCs rfl _ _ rfl w wr w.heap.size (.slice VA k vc) k T O L1 rfl A1 n1 c1 rfl HL1.out HO.out HA1.out HBr.out (Nat.le_refl _) HOw.out hk3 hn1 HBr.out.size ?_; intro v4 w4 hown hgr; obtain ⟨V4, c4, hv4, -⟩ := hown.row; subst hv4; have HOn := Lib.hid hown; have HBn : Hid (Below w.heap.size w w4) := HBr.out.grown hgr HBr.out.size (fun g hg => (HOw.out.block hg).1); clear hown hgr))
      obtain ⟨V5, c5, hv5, -⟩ := HOm.out.row
      subst hv5
      go_ret
      refine ⟨_, rfl, ?_, HBm.out⟩
      rw [← HF.out, ← hk]
      exact HOm.out
end Go.Proofs.YtogmbehomilalaaGreatDoor
end

/- The reference's sorted cells. -/
section
namespace Go.Proofs.YtogmbehomilalaaGreatDoor
open Go Go.RowKit Go.Deep Go.Shelf Go.Sort

theorem OwnC.at2 {S : Option Addr → Prop} {w : World} {B n : Nat} {v : Value} {T : CeD} {L : List Nat} (h : OwnC S w B v n (T.of L)) (hT : ∀ k, T.ln k ≤ 1000) : ∃ A cap, v = .slice A n cap ∧ n ≤ cap ∧ CeAt w A n (T.of L) := by
  obtain ⟨A, cap, h1, h2⟩ := h.row
  refine ⟨A, cap, h1, ?_, fun hn => ?_⟩
  · obtain ⟨xs, ⟨_, h3⟩, _⟩ := h
    rcases h3 with ⟨e, h3⟩ | ⟨g, c9, cur, e, _, _, hc, _⟩
    · rw [h1] at e
      injection e with _ e2 e3
      omega
    · rw [h1] at e
      injection e with _ e2 e3
      omega
  · obtain ⟨b, h3, h4, h5, h6⟩ := h2 hn
    refine ⟨b, 0, h3, h5, fun k hk => ?_⟩
    obtain ⟨P, pc, Q, qc, a1, a2, a3, a4, a5⟩ := h6 k hk
    exact ⟨P, pc, Q, qc, by rw [Nat.zero_add]; exact a1, by rw [Nat.zero_add]; exact a2, a3, a4, hT _⟩
theorem OwnC.lit (w : World) (B : Nat) (hB : B ≤ w.heap.size) (T : CeD) : OwnC (fun _ => True) (w.alloc (.cells #[] 38)) B (.slice (some ⟨w.heap.size, 0, none⟩) 0 0) 0 (T.of []) :=
  ⟨[], ⟨rfl, .inr ⟨w.heap.size, 0, #[], rfl, hB, heap_alloc_new _ _, Nat.le_refl _, Nat.zero_le _, by simp, by simp⟩⟩, fun k hk => absurd hk (by omega)⟩
def InOrd (T : CeD) (L : List Nat) : Prop := L.Pairwise fun x y => (!lessC T y x) = true
theorem less_lt (T : CeD) (d : Nat) (hTd : ∀ k, T.ln k = d) (x y : Nat) : lessC T x y = ltOf (fun x y : Nat => cmpS d d (T.x x) (T.x y)) x y := by
  unfold lessC ltOf
  rw [hTd, hTd]
theorem mrg_ord (T : CeD) (d : Nat) (hTd : ∀ k, T.ln k = d) (L M : List Nat) (h1 : InOrd T L) (h2 : InOrd T M) : InOrd T (mrgC T L M) := by
  have hs := swo_list d T.x
  refine List.pairwise_merge (le := fun x y => !lessC T y x) (fun x y z h3 h4 => ?_) (fun x y => ?_) L M h1 h2
  · rw [less_lt T d hTd] at *
    rw [Bool.not_eq_true'] at *
    exact hs.ntrans _ _ _ h4 h3
  · rw [less_lt T d hTd, less_lt T d hTd, Bool.or_eq_true, Bool.not_eq_true', Bool.not_eq_true']
    cases e : ltOf (fun x y : Nat => cmpS d d (T.x x) (T.x y)) y x
    · exact .inl rfl
    · cases e2 : ltOf (fun x y : Nat => cmpS d d (T.x x) (T.x y)) x y
      · exact .inr rfl
      · have h9 := hs.trans _ _ _ e e2
        rw [hs.irrefl] at h9
        cases h9
theorem ord_short (T : CeD) (L : List Nat) (h : L.length < 2) : InOrd T L := by
  match L, h with
  | [], _ => exact List.Pairwise.nil
  | [x], _ => exact List.pairwise_singleton _ _
theorem CeAt.take {w : World} {A : Option Addr} {n h : Nat} {T : CeD} {L : List Nat} (hc : CeAt w A n (T.of L)) (hh : h ≤ n) (hL : n = L.length) : CeAt w A h (T.of (L.take h)) := fun h0 => by
  obtain ⟨b, o, e1, e2, e3⟩ := hc (by omega)
  refine ⟨b, o, e1, e2, fun k hk => ?_⟩
  obtain ⟨P, c, Q, d, a1, a2, a3, a4, a5⟩ := e3 k (by omega)
  have eg : (L.take h)[k]! = L[k]! := by
    rw [List.getElem!_eq_getElem?_getD, List.getElem!_eq_getElem?_getD, List.getElem?_take_of_lt hk]
  refine ⟨P, c, Q, d, ?_, ?_, ?_, ?_, ?_⟩
  · show _ = some (Value.slice P (T.ln ((L.take h)[k]!)) c); rw [eg]; exact a1
  · show _ = some (Value.slice Q (T.vl ((L.take h)[k]!)) d); rw [eg]; exact a2
  · show IntsAt w P (T.ln ((L.take h)[k]!)) (T.x ((L.take h)[k]!)); rw [eg]; exact a3
  · show ValsAt w Q (T.vl ((L.take h)[k]!)) (T.vk ((L.take h)[k]!)) (T.vn ((L.take h)[k]!)) (T.vd ((L.take h)[k]!)) (T.vs ((L.take h)[k]!)); rw [eg]; exact a4
  · show T.ln ((L.take h)[k]!) ≤ 1000; rw [eg]; exact a5
theorem CeAt.drop {w : World} {b o n h : Nat} {T : CeD} {L : List Nat} (hc : CeAt w (some ⟨b, o, none⟩) n (T.of L)) (hh : h ≤ n) (hL : n = L.length) : CeAt w (some ⟨b, o + h * 2, none⟩) (n - h) (T.of (L.drop h)) := fun h0 => by
  obtain ⟨b', o', e1, e2, e3⟩ := hc (by omega)
  injection e1 with e1
  injection e1 with e4 e5 _
  subst e4 e5
  refine ⟨b, _, rfl, e2, fun k hk => ?_⟩
  obtain ⟨P, c, Q, d, a1, a2, a3, a4, a5⟩ := e3 (h + k) (by omega)
  have eg : (L.drop h)[k]! = L[h + k]! := by
    rw [List.getElem!_eq_getElem?_getD, List.getElem!_eq_getElem?_getD, List.getElem?_drop]
  refine ⟨P, c, Q, d, ?_, ?_, ?_, ?_, ?_⟩
  · rw [show o + h * 2 + k * 2 = o + (h + k) * 2 by omega]; show _ = some (Value.slice P (T.ln ((L.drop h)[k]!)) c); rw [eg]; exact a1
  · rw [show o + h * 2 + k * 2 + 1 = o + (h + k) * 2 + 1 by omega]; show _ = some (Value.slice Q (T.vl ((L.drop h)[k]!)) d); rw [eg]; exact a2
  · show IntsAt w P (T.ln ((L.drop h)[k]!)) (T.x ((L.drop h)[k]!)); rw [eg]; exact a3
  · show ValsAt w Q (T.vl ((L.drop h)[k]!)) (T.vk ((L.drop h)[k]!)) (T.vn ((L.drop h)[k]!)) (T.vd ((L.drop h)[k]!)) (T.vs ((L.drop h)[k]!)); rw [eg]; exact a4
  · show T.ln ((L.drop h)[k]!) ≤ 1000; rw [eg]; exact a5
set_option maxRecDepth 100000 in
set_option maxHeartbeats 8000000 in
theorem r_Sorted1 (w : World) (A : Option Addr) (n ca : Nat) (T : CeD) (L : List Nat) (hL : n = L.length) (ha : CeAt w A n (T.of L)) (h1 : n < 2) :
    Calls Tryz.prog 31 #[.slice A n ca] w fun e w' => ∃ v, e = .returned v ∧ OwnC (fun _ => True) w' w.heap.size v n (T.of L) ∧ Below w.heap.size w w' := by
  have HA := Lib.hid ha
  have HL : Hid (n = L.length) := hL
  have HLi := Lib.hid (OwnC.lit w w.heap.size (Nat.le_refl _) T)
  have HBl := Lib.hid (bel_nw w (.cells #[] 38))
  have i1 : (n : Int) < 2 := by omega
  have hn : n ≤ 1000000 := by omega
  clear ha hL
  go_enter Tryz.func31, Tryz.ntmps31
  go_wp2_with (at_builtin; refine wpList_appCs rfl _ _ rfl w _ w.heap.size (.slice (some ⟨w.heap.size, 0, none⟩) 0 0) 0 T [] L rfl A n ca rfl HL.out rfl HA.out HBl.out (Nat.le_refl _) HLi.out (by omega) hn HBl.out.size ?_; intro v4 w4 hown hgr; have HOn := Lib.hid hown; have HBn : Hid (Below w.heap.size w w4) := HBl.out.grown hgr HBl.out.size (fun g hg => (HLi.out.block hg).1); clear hown hgr)
  obtain ⟨A4, c4, hv, -⟩ := HOn.out.row
  subst hv
  have HOm := HOn.out
  rw [Nat.zero_add] at HOm
  have HOq := Lib.hid HOm
  clear HOm HOn
  go_ret
  refine ⟨.slice A4 n c4, ?_, HOq.out, HBn.out⟩
  show Ending.returned (.slice A4 (0 + n) c4) = _
  rw [Nat.zero_add]
/-- What Sorted returns. -/
def SoR (T : CeD) (L : List Nat) (n : Nat) (v : Value) (w' : World) : Prop := ∃ A cap L', v = .slice A n cap ∧ n ≤ cap ∧ L'.Perm L ∧ InOrd T L' ∧ CeAt w' A n (T.of L')
set_option maxRecDepth 100000 in
set_option maxHeartbeats 8000000 in
theorem r_Sorted2 (w : World) (A : Option Addr) (n ca h : Nat) (T : CeD) (L : List Nat) (d : Nat) (hTd : ∀ k, T.ln k = d) (hL : n = L.length) (ha : CeAt w A n (T.of L)) (h1 : 2 ≤ n) (hca : n ≤ ca) (hn : n ≤ 10000) (hh : h = n / 2) (hT : ∀ k, T.ln k ≤ 1000)
    (ih : ∀ (W : World) (A : Option Addr) (k ca : Nat) (M : List Nat), k < n → k = M.length → CeAt W A k (T.of M) → k ≤ ca → Calls Tryz.prog 31 #[.slice A k ca] W fun e w' => ∃ v, e = .returned v ∧ SoR T M k v w' ∧ Below W.heap.size W w') :
    Calls Tryz.prog 31 #[.slice A n ca] w fun e w' => ∃ v, e = .returned v ∧ SoR T L n v w' ∧ Below w.heap.size w w' := by
  have hw : wrap64 ((n : Int) / 2) = (h : Int) := by
    unfold wrap64; omega
  have HI2 : Hid ((n : Int) / 2 = (h : Int)) := by show _ = _; omega
  have i1 : ¬ (n : Int) < 2 := by omega
  have j0 : (0 : Int) ≤ (h : Int) := by omega
  have j1 : (h : Int) ≤ (n : Int) := by omega
  have j2 : (n : Int) ≤ (ca : Int) := by omega
  have j3 : (h : Int) ≤ (ca : Int) := by omega
  have HIH := Lib.hid ih
  have HA := Lib.hid ha
  have HL : Hid (n = L.length) := hL
  obtain ⟨b, o, rfl, _, _⟩ := ha (by omega)
  have H1 : Hid (∀ W, Below w.heap.size w W → Calls Tryz.prog 31 #[.slice (some ⟨b, o, none⟩) h ca] W fun e w' => ∃ v, e = .returned v ∧ SoR T (L.take h) h v w' ∧ Below W.heap.size W w') := fun W hW => HIH.out W _ h ca (L.take h) (by omega) (by rw [List.length_take]; omega) ((HA.out.take (by omega) HL.out).below hW) (by omega)
  have H2 : Hid (∀ W, Below w.heap.size w W → Calls Tryz.prog 31 #[.slice (some ⟨b, o + h * 2, none⟩) (n - h) (ca - h)] W fun e w' => ∃ v, e = .returned v ∧ SoR T (L.drop h) (n - h) v w' ∧ Below W.heap.size W w') := fun W hW => HIH.out W _ (n - h) (ca - h) (L.drop h) (by omega) (by rw [List.length_drop]; omega) ((HA.out.drop (by omega) HL.out).below hW) (by omega)
  have HH : Hid (1 ≤ h ∧ h < n) := ⟨by omega, by omega⟩
  clear ih ha hL hh
  have B0d : Below w.heap.size w w.drew := Below.drew (Below.refl _ _)
  have hn7 : h ≤ 10000 := by omega
  have hne : ¬ ca = h := by have := HH.out; omega
  have hne2 : ¬ h = ca := by have := HH.out; omega
  have hn8 : n - h ≤ 10000 := by omega
  go_enter Tryz.func31, Tryz.ntmps31
  go_wp2_with fail
  rw [HI2.out]
  clear hw
  go_region_held3 (fun _ => True)
    (exact trivial)
    (first
      | (go_at_call 74; refine (r_merged w8 A7 A8 h c7 (n - h) c8 T L7 L8 HS7'.out.2.2.2.2 HS8.out.2.2.2.2 HS7'.out.2.2.2.1 HS8.out.2.2.2.1 HS7'.out.1 HS8.out.1 hn7 hn8 hT).mono ?_; rintro e w9 ⟨v9, rfl, hown, hb9⟩; have HOn := Lib.hid hown; have HB9 : Hid (Below w.heap.size w w9) := B8.trans (hb9.mono B8.size); clear hown hb9)
      | (go_at_call 31; refine (H2.out _ B7d).mono ?_; rintro e w8 ⟨v8, rfl, hso8, hb8⟩; obtain ⟨A8, c8, L8, rfl, hc8, hp8, hi8, ha8⟩ := hso8; have HS8 : Hid (n - h ≤ c8 ∧ L8.Perm (L.drop h) ∧ InOrd T L8 ∧ CeAt w8 A8 (n - h) (T.of L8) ∧ n - h = L8.length) := ⟨hc8, hp8, hi8, ha8, by rw [hp8.length_eq, List.length_drop, ← HL.out]⟩; have B8 : Below w.heap.size w w8 := B7d.trans (hb8.mono B7d.size); have HS7' : Hid (h ≤ c7 ∧ L7.Perm (L.take h) ∧ InOrd T L7 ∧ CeAt w8 A7 h (T.of L7) ∧ h = L7.length) := ⟨HS7.out.1, HS7.out.2.1, HS7.out.2.2.1, HS7.out.2.2.2.below hb8, by rw [HS7.out.2.1.length_eq, List.length_take, ← HL.out]; have := HH.out; omega⟩; clear hb8 hc8 hp8 hi8 ha8)
      | (go_at_call 31; refine (H1.out _ B0d).mono ?_; rintro e w7 ⟨v7, rfl, hso7, hb7⟩; obtain ⟨A7, c7, L7, rfl, hc7, hp7, hi7, ha7⟩ := hso7; have HS7 : Hid (h ≤ c7 ∧ L7.Perm (L.take h) ∧ InOrd T L7 ∧ CeAt w7 A7 h (T.of L7)) := ⟨hc7, hp7, hi7, ha7⟩; have B7d : Below w.heap.size w w7 := B0d.trans (hb7.mono B0d.size); clear hb7 hc7 hp7 hi7 ha7))
  obtain ⟨A9, c9, rfl, hc9, ha9⟩ := HOn.out.at2 hT
  have e9 : h + (n - h) = n := by have := HH.out; omega
  have HC9 : Hid (n ≤ c9 ∧ CeAt w9 A9 n (T.of (mrgC T L7 L8))) := by
    rw [e9] at hc9 ha9
    exact ⟨hc9, ha9⟩
  have HP9 : Hid ((mrgC T L7 L8).Perm L ∧ InOrd T (mrgC T L7 L8)) := by
    refine ⟨?_, mrg_ord T d hTd L7 L8 HS7'.out.2.2.1 HS8.out.2.2.1⟩
    have h7 := HS7'.out.2.1.append HS8.out.2.1
    rw [List.take_append_drop] at h7
    exact (List.merge_perm_append _).trans h7
  have HE9 := Lib.hid e9
  clear hc9 ha9 e9
  go_wp2
  go_ret
  refine ⟨.slice A9 n c9, ?_, ⟨A9, c9, _, rfl, HC9.out.1, HP9.out.1, HP9.out.2, HC9.out.2⟩, HB9.out⟩
  show Ending.returned (.slice A9 (h + (n - h)) c9) = _
  rw [HE9.out]
theorem r_Sorted (T : CeD) (d : Nat) (hTd : ∀ k, T.ln k = d) (hd : d ≤ 1000) : ∀ (F : Nat) (W : World) (A : Option Addr) (n ca : Nat) (L : List Nat), n ≤ F → n ≤ 10000 → n = L.length → CeAt W A n (T.of L) → n ≤ ca → Calls Tryz.prog 31 #[.slice A n ca] W fun e w' => ∃ v, e = .returned v ∧ SoR T L n v w' ∧ Below W.heap.size W w' := by
  intro F
  induction F with
  | zero =>
    intro W A n ca L hF hn hL ha hca
    refine (r_Sorted1 W A n ca T L hL ha (by omega)).mono ?_
    rintro e w' ⟨v, rfl, h1, h2⟩
    obtain ⟨A', cap, h3, h4, h5⟩ := h1.at2 (fun k => by rw [hTd]; exact hd)
    exact ⟨v, rfl, ⟨A', cap, L, h3, h4, List.Perm.refl _, ord_short T L (by omega), h5⟩, h2⟩
  | succ F ih =>
    intro W A n ca L hF hn hL ha hca
    by_cases h1 : n < 2
    · refine (r_Sorted1 W A n ca T L hL ha h1).mono ?_
      rintro e w' ⟨v, rfl, h1, h2⟩
      obtain ⟨A', cap, h3, h4, h5⟩ := h1.at2 (fun k => by rw [hTd]; exact hd)
      exact ⟨v, rfl, ⟨A', cap, L, h3, h4, List.Perm.refl _, ord_short T L (by omega), h5⟩, h2⟩
    · exact r_Sorted2 W A n ca (n / 2) T L d hTd hL ha (by omega) hca hn rfl (fun k => by rw [hTd]; exact hd) (fun W A k ca M hk hM hc hka => ih W A k ca M (by omega) (by omega) hM hc hka)
end Go.Proofs.YtogmbehomilalaaGreatDoor
end

/- The reference's schemas. -/
section
namespace Go.Proofs.YtogmbehomilalaaGreatDoor
open Go Go.RowKit Go.Deep

set_option maxRecDepth 100000 in
set_option maxHeartbeats 2000000 in
theorem r_taken (w : World) (A B : Option Addr) (n cap m bcap : Nat) (nm : Nat → ByteArray) (lo hi : Nat → Int) (an : Nat → ByteArray) (ty : Nat → Int) (hd : DimsAt w A n nm lo hi) (ha : AttrsAt w B m an ty) (j : Nat) (hj : j ≤ m) (s : ByteArray) (hn : n ≤ 1000) (hm : m ≤ 1000) :
    Calls Tryz.prog 71 #[.slice A n cap, .slice B m bcap, .int .i64 j, .string s] w fun e w' => e = .returned (.bool (dupTo nm s n || dupTo an s j)) ∧ w' = w := by
  have HD := Lib.hid hd
  have HA := Lib.hid ha
  obtain ⟨v, hv⟩ : ∃ v, (dupTo nm s n || dupTo an s j) = v := ⟨_, rfl⟩
  rw [hv]
  have HV := Lib.hid hv
  clear hd ha hv
  go_enter Tryz.func71, Tryz.ntmps71
  go_wp2
  go_loopw [9] (fun i wr => ∃ k : Nat, k ≤ n ∧ i = .int .i64 k ∧ Hid (dupTo nm s k = false) ∧ wr = w) (fun i _ => n - (intOf i).toNat)
  case atStart => exact ⟨0, Nat.zero_le _, rfl, rfl, rfl⟩
  case round =>
    obtain ⟨k, hk, rfl, HK, hw⟩ := hrel
    have hw := hw.symm
    subst hw
    by_cases hlt : k < n
    · obtain ⟨bd, o, rfl, hbd, hc⟩ := HD.out (by omega)
      have c0 := (hc k hlt).1
      clear hc
      have HU : Hid (dupTo nm s (k + 1) = decide (nm k = s)) := by show _ = _; rw [dupTo, HK.out, Bool.false_or]
      have HUl : Hid (dupTo nm s (k + 1) = true → dupTo nm s n = true) := fun h => dupTo_le h (by omega)
      generalize nm k = t at *
      by_cases he : t = s
      · subst he
        have HT : Hid (v = true) := by show _ = _; rw [← HV.out, HUl.out (by rw [HU.out, decide_eq_true rfl])]; rfl
        go_wp2
        go_ret
        exact ⟨by rw [HT.out]; rfl, rfl⟩
      · have h5 : (t.toList == s.toList) = false := by
          cases h6 : t.toList == s.toList
          · rfl
          · exact absurd (str_eq h6) he
        have HR : Hid (dupTo nm s (k + 1) = false) := by show _ = _; rw [HU.out, decide_eq_false he]
        go_wp2
        go_roundw
        case rel => exact ⟨k + 1, by omega, by go_num, HR.out, by first | rfl | trivial⟩
        case measure => simp [intOf]; omega
    · obtain rfl : k = n := by omega
      have HV2 : Hid (v = dupTo an s j) := by show _ = _; rw [← HV.out, HK.out]; rfl
      go_wp2
      go_loopw [10] (fun i wr => ∃ k : Nat, k ≤ j ∧ i = .int .i64 k ∧ Hid (dupTo an s k = false) ∧ wr = w) (fun i _ => j - (intOf i).toNat)
      case atStart => exact ⟨0, Nat.zero_le _, rfl, rfl, rfl⟩
      case round =>
        obtain ⟨i, hi2, rfl, HI, hw⟩ := hrel
        have hw := hw.symm
        subst hw
        by_cases hlt2 : i < j
        · obtain ⟨bd, o, rfl, hbd, hc⟩ := HA.out (by omega)
          have c0 := (hc i (by omega)).1
          clear hc
          have HU : Hid (dupTo an s (i + 1) = decide (an i = s)) := by show _ = _; rw [dupTo, HI.out, Bool.false_or]
          have HUl : Hid (dupTo an s (i + 1) = true → dupTo an s j = true) := fun h => dupTo_le h (by omega)
          generalize an i = t at *
          by_cases he : t = s
          · subst he
            have HT : Hid (v = true) := by show _ = _; rw [HV2.out, HUl.out (by rw [HU.out, decide_eq_true rfl])]
            go_wp2
            go_ret
            exact ⟨by rw [HT.out]; rfl, rfl⟩
          · have h5 : (t.toList == s.toList) = false := by
              cases h6 : t.toList == s.toList
              · rfl
              · exact absurd (str_eq h6) he
            have HR : Hid (dupTo an s (i + 1) = false) := by show _ = _; rw [HU.out, decide_eq_false he]
            go_wp2
            go_roundw
            case rel => exact ⟨i + 1, by omega, by go_num, HR.out, by first | rfl | trivial⟩
            case measure => simp [intOf]; omega
        · obtain rfl : i = j := by omega
          go_wp2
          go_ret
          exact ⟨by rw [HV2.out, HI.out]; rfl, rfl⟩

theorem dup_in2 (M : List ByteArray) (nm : Nat → ByteArray) (s : ByteArray) : ∀ k, inN (metK M nm k) s = (inN M s || dupTo nm s k)
  | 0 => by rw [dupTo, Bool.or_false]; rfl
  | k + 1 => by
    have ih := dup_in2 M nm s k
    rw [dupTo, ← Bool.or_assoc, ← ih]
    by_cases h : nm k = s
    · rw [decide_eq_true h, Bool.or_true]
      exact inN_true.2 (by rw [metK, h]; exact List.mem_cons_self)
    · rw [decide_eq_false h, Bool.or_false]
      cases h2 : inN (metK M nm k) s
      · exact inN_false.2 (by rw [metK]; intro h3; rcases List.mem_cons.1 h3 with h4 | h4; · exact h h4.symm
                              · exact inN_false.1 h2 h4)
      · exact inN_true.2 (by rw [metK]; exact List.mem_cons_of_mem _ (inN_true.1 h2))
theorem attrE_of (nm an : Nat → ByteArray) (s : ByteArray) (n k : Nat) (t : Int) : attrE (metK (metK [] nm n) an k) s t = if nameB s = false then 11 else if (dupTo nm s n || dupTo an s k) = true then 11 else if t < 1 ∨ 4 < t then 12 else 0 := by
  rw [attrE, dup_in2, dup_in]
  cases h1 : nameB s
  · rfl
  · cases h2 : (dupTo nm s n || dupTo an s k)
    · rfl
    · rfl

set_option maxRecDepth 100000 in
set_option maxHeartbeats 4000000 in
theorem r_Schema (w : World) (A B : Option Addr) (n cap m bcap : Nat) (nm : Nat → ByteArray) (lo hi : Nat → Int) (an : Nat → ByteArray) (ty : Nat → Int) (hd : DimsAt w A n nm lo hi) (ha : AttrsAt w B m an ty) (hs : ∀ k, k < n → (nm k).size ≤ 9223372036854775807) (hs2 : ∀ k, k < m → (an k).size ≤ 9223372036854775807) (hn10 : n ≤ 1000) (hm10 : m ≤ 1000) :
    Calls Tryz.prog 29 #[.slice A n cap, .slice B m bcap] w fun e w' => e = .returned (.int .i64 (schE nm lo hi n an ty m)) ∧ Below w.heap.size w w' := by
  have HA := Lib.hid ha
  have HDm := Lib.hid (r_Dims w A n cap nm lo hi hd hs hn10)
  have HTk : Hid (∀ W j s, Below w.heap.size w W → j ≤ m → Calls Tryz.prog 71 #[.slice A n cap, .slice B m bcap, .int .i64 (j : Nat), .string s] W fun e w' => e = .returned (.bool (dupTo nm s n || dupTo an s j)) ∧ w' = W) := fun W j s hW hj => r_taken W A B n cap m bcap nm lo hi an ty (hd.below hW) (ha.below hW) j hj s hn10 hm10
  have HNm := Lib.hid r_Name
  have HS := Lib.hid hs2
  obtain ⟨ve, hve⟩ : ∃ ve, schE nm lo hi n an ty m = ve := ⟨_, rfl⟩
  rw [hve]
  have HV : Hid (ve = if dimsZ nm lo hi n ≠ 0 then dimsZ nm lo hi n else if m = 0 ∨ 6 < m then 9 else attrsTo (metK [] nm n) an ty m) := hve.symm
  clear hd ha hs hs2 hve
  by_cases h0 : dimsZ nm lo hi n = 0
  · have HV2 : Hid (ve = if m = 0 ∨ 6 < m then 9 else attrsTo (metK [] nm n) an ty m) := by show _ = _; rw [HV.out, if_neg (by rw [h0]; simp)]
    rw [h0] at HDm
    clear h0 HV
    by_cases h1 : m = 0 ∨ 6 < m
    · have HR : Hid (ve = 9) := HV2.out.trans (if_pos h1)
      clear HV2
      go_enter Tryz.func29, Tryz.ntmps29
      go_wp2_with fail
      refine HDm.out.mono ?_
      rintro e w1 ⟨rfl, hb1⟩
      rcases h1 with rfl | h1
      · go_wp2
        go_ret
        exact ⟨by rw [HR.out]; rfl, hb1⟩
      · have h2 : ¬ (m : Int) < 1 := by omega
        have h3 : (m : Int) > 6 := by omega
        clear h1
        go_wp2
        go_ret
        exact ⟨by rw [HR.out]; rfl, hb1⟩
    · have HR : Hid (ve = attrsTo (metK [] nm n) an ty m) := HV2.out.trans (if_neg h1)
      have h2 : ¬ (m : Int) < 1 := by omega
      have h3 : ¬ (m : Int) > 6 := by omega
      clear HV2 h1
      go_enter Tryz.func29, Tryz.ntmps29
      go_wp2_with fail
      refine HDm.out.mono ?_
      rintro e w1 ⟨rfl, hb1⟩
      have HB1 := Lib.hid hb1
      clear hb1 HDm
      go_wp2
      go_loopw [6] (fun i wr => ∃ k : Nat, k ≤ m ∧ i = .int .i64 k ∧ Hid (attrsTo (metK [] nm n) an ty k = 0) ∧ Hid (Below w.heap.size w wr)) (fun i _ => m - (intOf i).toNat)
      case atStart => exact ⟨0, Nat.zero_le _, rfl, rfl, HB1.out⟩
      case round =>
        obtain ⟨k, hk, rfl, HK, HB⟩ := hrel
        by_cases hlt : k < m
        · obtain ⟨bd, o, rfl, hbd, hc⟩ := (HA.out.below HB.out) (by omega)
          obtain ⟨c0, c1⟩ := hc k hlt
          clear hc
          have HT : Hid (attrsTo (metK [] nm n) an ty (k + 1) = if nameB (an k) = false then 11 else if (dupTo nm (an k) n || dupTo an (an k) k) = true then 11 else if ty k < 1 ∨ 4 < ty k then 12 else 0) := by show _ = _; rw [attrsTo, if_pos HK.out, attrE_of]
          have HE : Hid (attrsTo (metK [] nm n) an ty (k + 1) ≠ 0 → ve = attrsTo (metK [] nm n) an ty (k + 1)) := fun h => by rw [HR.out]; exact attrsTo_le h (by omega)
          have HNk := Lib.hid (fun W => HNm.out (an k) W (HS.out k hlt))
          have HTkk := Lib.hid (HTk.out wr k (an k) HB.out hk)
          obtain ⟨D, hDe⟩ : ∃ D, attrsTo (metK [] nm n) an ty (k + 1) = D := ⟨_, rfl⟩
          have HDe := Lib.hid hDe
          rw [hDe] at HE HT
          clear hDe
          generalize (dupTo nm (an k) n || dupTo an (an k) k) = u at *
          generalize an k = s at *
          generalize ty k = t at *
          cases hb : nameB s
          · rw [hb] at HNk
            have HD1 : Hid (ve = 11) := by
              have h9 : D = 11 := by rw [HT.out, if_pos hb]
              exact (HE.out (by rw [h9]; decide)).trans h9
            go_wp2_with fail
            refine (HNk.out _).mono ?_
            rintro e w2 ⟨rfl, rfl⟩
            go_wp2
            go_ret
            exact ⟨by rw [HD1.out]; rfl, HB.out⟩
          · rw [hb] at HNk
            have HT2 : Hid (D = if u = true then 11 else if t < 1 ∨ 4 < t then 12 else 0) := by show _ = _; rw [HT.out, if_neg (by rw [hb]; decide)]
            clear hb HT
            cases u
            · have HT3 : Hid (D = if t < 1 ∨ 4 < t then 12 else 0) := HT2.out
              go_wp2_with fail
              refine (HNk.out _).mono ?_
              rintro e w2 ⟨rfl, rfl⟩
              go_wp2_with fail
              refine HTkk.out.mono ?_
              rintro e w2 ⟨rfl, rfl⟩
              by_cases g1 : t < 1
              · have HD1 : Hid (ve = 12) := by
                  have h9 : D = 12 := by rw [HT3.out, if_pos (by omega)]
                  exact (HE.out (by rw [h9]; decide)).trans h9
                go_wp2
                go_ret
                exact ⟨by rw [HD1.out]; rfl, HB.out⟩
              · by_cases g2 : t > 4
                · have HD1 : Hid (ve = 12) := by
                    have h9 : D = 12 := by rw [HT3.out, if_pos (by omega)]
                    exact (HE.out (by rw [h9]; decide)).trans h9
                  go_wp2
                  go_ret
                  exact ⟨by rw [HD1.out]; rfl, HB.out⟩
                · have HD1 : Hid (D = 0) := by show _ = _; rw [HT3.out, if_neg (by omega)]
                  go_wp2
                  go_roundw
                  case rel => exact ⟨k + 1, by omega, by go_num, HDe.out.trans HD1.out, HB.out⟩
                  case measure => simp [intOf]; omega
            · have HD1 : Hid (ve = 11) := by
                have h9 : D = 11 := HT2.out
                exact (HE.out (by rw [h9]; decide)).trans h9
              go_wp2_with fail
              refine (HNk.out _).mono ?_
              rintro e w2 ⟨rfl, rfl⟩
              go_wp2_with fail
              refine HTkk.out.mono ?_
              rintro e w2 ⟨rfl, rfl⟩
              go_wp2
              go_ret
              exact ⟨by rw [HD1.out]; rfl, HB.out⟩
        · obtain rfl : k = m := by omega
          go_wp2
          go_ret
          exact ⟨by rw [HR.out, HK.out]; rfl, HB.out⟩
  · have HE : Hid (ve = dimsZ nm lo hi n) := by show _ = _; rw [HV.out, if_pos h0]
    generalize dimsZ nm lo hi n = E at *
    have h1 : (E != 0) = true := by rw [bne_iff_ne]; exact h0
    clear h0 HV
    go_enter Tryz.func29, Tryz.ntmps29
    go_wp2_with fail
    refine HDm.out.mono ?_
    rintro e w1 ⟨rfl, hb1⟩
    go_wp2
    go_ret
    exact ⟨by rw [HE.out]; rfl, hb1⟩
end Go.Proofs.YtogmbehomilalaaGreatDoor
end
