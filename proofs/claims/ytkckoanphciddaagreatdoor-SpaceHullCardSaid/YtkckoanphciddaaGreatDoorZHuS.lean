/- The least box with all cells: the program. -/
import Derived.Test.YtkckoanphciddaaGreatDoorZHuT
namespace Go.Proofs.YtkckoanphciddaaGreatDoor
open Go Go.RowKit Go.Deep

theorem rowL_int {f : Nat → Int} {n k : Nat} (hk : k < n) : (rowL (intF f) 1 n)[k]? = some (.int .i64 (f k)) := by
  unfold rowL
  rw [List.getElem?_map, List.getElem?_range (by omega)]
  simp [intF]
set_option maxRecDepth 100000 in
theorem c_CloneO (w : World) (A : Option Addr) (n c : Nat) (f : Nat → Int) (h : IntsAt w A n f) (hn : n ≤ 1000000) (h0 : 0 < n) :
    Calls Tryz.prog 95 #[.slice A n c] w fun e w' => ∃ P cc, e = .returned (.slice P n cc) ∧ OwnI w' w.heap.size (.slice P n cc) n f ∧ Below w.heap.size w w' := by
  have HR := Lib.hid h.row
  obtain ⟨b, o, rfl, _, _⟩ := h h0
  clear h
  obtain ⟨i0, hI9, hz0, hz1, hz2⟩ := info_parts info_clI
  have q1 : ∀ (w : World) (a : Option Addr) (n c n' c' : Nat), (binOp .eql 35 (.slice a n c) (.slice none n' c')).run Tryz.prog w = .ok (.bool a.isNone) w := fun w a n c n' c' => Lib.run_eql_slice_nil w _ _ a n c n' c' Tryz.underlying35
  go_enter Tryz.func95, Tryz.ntmps95
  go_wp2_with (at_builtin; refine wpList_append_own _ rfl _ _ 35 rfl w.heap.size 3 i0 (.int .i64 0) 1 8 Tryz.underlying35 hI9 hz0 hz1 hz2 rfl (by decide) _ _ _ rfl (World.ownsRow_made w #[] 0 (Nat.le_refl _) (Nat.zero_le _) rfl) ⟨b, o, none⟩ n c (rowL (intF f) 1 n) rfl ?qc1 ?qc2 ?qc3 ?qc4 ?qc5 ?qc6 ?_)
  case qc1 => rw [rowL_len]
  case qc2 => exact fun j u hj => Lib.cell?_alloc_some _ (HR.out.news (by decide) j u hj)
  case qc3 => exact rowL_one (intF_one f)
  case qc4 => unfold maxLen; omega
  case qc5 => omega
  case qc6 => simp
  intro v' w1 hown hgrow hnil
  go_wp2
  go_ret
  have hown2 : w1.ownsRow w.heap.size 3 1 v' n (rowL (intF f) 1 n) := by simpa using hown
  have ho : OwnI w1 w.heap.size v' n f := ⟨_, hown2, fun k hk => rowL_int hk⟩
  obtain ⟨P, cc, rfl, _⟩ := ho.ints
  exact ⟨P, cc, rfl, ho, ((Below.refl _ w).alloc (Nat.le_refl _) _).grown hgrow (by simp) (by intro k hk; simp [Value.ownBlock] at hk; omega)⟩

noncomputable def hullB (D : ArD) : Bool := D.check == 0 && decide (0 < D.N)
theorem OwnI.base {w : World} {B B' n : Nat} {v : Value} {f : Nat → Int} (h : OwnI w B v n f) (hb : B' ≤ B) : OwnI w B' v n f := by
  obtain ⟨xs, ⟨hl, h1⟩, h2⟩ := h
  refine ⟨xs, ⟨hl, ?_⟩, h2⟩
  rcases h1 with h1 | ⟨g, cap, cur, h3, h4, h5⟩
  · exact .inl h1
  · exact .inr ⟨g, cap, cur, h3, Nat.le_trans hb h4, h5⟩
theorem hull_end {W : World} {B n gl cl gh ch bb : Nat} {f f' : Nat → Int} (ol : OwnI W B (.slice (some ⟨gl, 0, none⟩) n cl) n f) (oh : OwnI W B (.slice (some ⟨gh, 0, none⟩) n ch) n f') (hb : W.heap[bb]? = some (.cells #[.slice none 0 0, .slice none 0 0] 66 (0, 0))) (h1 : gl ≠ bb) (h2 : gh ≠ bb) :
    OwnI ((W.setCell ⟨bb, 0, none⟩ (.slice (some ⟨gl, 0, none⟩) n cl)).setCell ⟨bb, 1, none⟩ (.slice (some ⟨gh, 0, none⟩) n ch)) B (.slice (some ⟨gl, 0, none⟩) n cl) n f ∧ OwnI ((W.setCell ⟨bb, 0, none⟩ (.slice (some ⟨gl, 0, none⟩) n cl)).setCell ⟨bb, 1, none⟩ (.slice (some ⟨gh, 0, none⟩) n ch)) B (.slice (some ⟨gh, 0, none⟩) n ch) n f' ∧
      ((W.setCell ⟨bb, 0, none⟩ (.slice (some ⟨gl, 0, none⟩) n cl)).setCell ⟨bb, 1, none⟩ (.slice (some ⟨gh, 0, none⟩) n ch)).heap[bb]? = some (.cells #[.slice (some ⟨gl, 0, none⟩) n cl, .slice (some ⟨gh, 0, none⟩) n ch] 66 (0, 0)) := by
  have gr : W.grownBy ((W.setCell ⟨bb, 0, none⟩ (.slice (some ⟨gl, 0, none⟩) n cl)).setCell ⟨bb, 1, none⟩ (.slice (some ⟨gh, 0, none⟩) n ch)) (some bb) := gr2 (grown_set _ _ _ _) (grown_set _ _ _ _)
  exact ⟨ol.kept gr (.inr fun e => by injection e with e; exact h1 e), oh.kept gr (.inr fun e => by injection e with e; exact h2 e), put2 hb _ _⟩
/-- What Hull returns. -/
def HullR (D : ArD) (e : Ending) (w' : World) : Prop :=
  ∃ (P Q : Option Addr) (k c d : Nat), e = .returned (.tuple #[BoxW P Q k c k d, .bool (hullB D)]) ∧ k = (if hullB D = true then D.n else 0) ∧ IntsAt w' P k (hLo D.c.x D.N) ∧ IntsAt w' Q k (hHi D.c.x D.N)
set_option maxRecDepth 100000 in
set_option maxHeartbeats 8000000 in
theorem s_Hull (w : World) (p : ArP) (D : ArD) (ha : ArAt w p D) (ho : ArOk D) :
    Calls Tryz.prog 42 #[p.val D.n D.m D.N] w fun e w' => HullR D e w' ∧ Below w.heap.size w w' := by
  have HCk : Hid (∀ W, Below w.heap.size w W → Calls Tryz.prog 16 #[p.val D.n D.m D.N] W fun e w' => e = .returned (.int .i64 D.check) ∧ Below W.heap.size W w') := fun W hW => as_Check W p D (ha.below hW) ho
  have HY : Hid (D.check = 0 → 0 < D.N → ∀ W P Q c d, IntsAt W P D.n (hLo D.c.x D.N) → IntsAt W Q D.n (hHi D.c.x D.N) → HullR D (.returned (.tuple #[BoxW P Q D.n c D.n d, .bool true])) W) := fun h1 h2 W P Q c d g1 g2 => by
    have e : hullB D = true := by unfold hullB; rw [h1]; simp [h2]
    exact ⟨P, Q, D.n, c, d, by rw [e], by rw [if_pos e], g1, g2⟩
  have HN : Hid (D.check ≠ 0 ∨ D.N = 0 → ∀ W, HullR D (.returned (.tuple #[BoxW none none 0 0 0 0, .bool false])) W) := fun h W => by
    have e : hullB D = false := by
      unfold hullB
      rcases h with h | h
      · rw [beq_eq_false_iff_ne.2 h]; rfl
      · rw [h]; simp
    exact ⟨none, none, 0, 0, 0, by rw [e], by rw [if_neg (by rw [e]; decide)], fun h => absurd h (Nat.lt_irrefl 0), fun h => absurd h (Nat.lt_irrefl 0)⟩
  have HLn : Hid (D.check = 0 → (1 ≤ D.n ∧ D.n ≤ 4) ∧ ∀ k, k < D.N → D.c.ln k = D.n) := fun h => ⟨check_n h, fun k hk => check_ln h hk⟩
  have HCe := Lib.hid ha.cells
  have hN := ho.N1
  clear ha ho
  generalize HullR D = R at *
  generalize D.check = ck at *
  generalize D.c = cc at *
  have HT1 := Lib.hid (arr_box w (.slice p.A D.n p.cap) (.slice p.B D.m p.bcap) (.slice p.C D.N p.ccap) 29)
  have HR0 := Lib.hid (heap_alloc_new (w.alloc (p.obj D.n D.m D.N)) (.cells #[.slice none 0 0, .slice none 0 0] 66))
  have hz1 : (w.alloc (p.obj D.n D.m D.N)).heap.size = w.heap.size + 1 := by simp
  have hz2 : ((w.alloc (p.obj D.n D.m D.N)).alloc (.cells #[.slice none 0 0, .slice none 0 0] 66)).heap.size = w.heap.size + 2 := by simp
  have HB0 : Hid (Below w.heap.size w ((w.alloc (p.obj D.n D.m D.N)).alloc (.cells #[.slice none 0 0, .slice none 0 0] 66))) := ((Below.refl _ _).alloc (Nat.le_refl _) _).alloc (by simp) _
  have HT : Hid (∀ W, Below (w.heap.size + 2) ((w.alloc (p.obj D.n D.m D.N)).alloc (.cells #[.slice none 0 0, .slice none 0 0] 66)) W → (W.cell? ⟨w.heap.size, 0, none⟩ = some (.slice p.A D.n p.cap) ∧ W.cell? ⟨w.heap.size, 1, none⟩ = some (.slice p.B D.m p.bcap) ∧ W.cell? ⟨w.heap.size, 2, none⟩ = some (.slice p.C D.N p.ccap)) ∧ W.heap[w.heap.size + 1]? = some (.cells #[.slice none 0 0, .slice none 0 0] 66 (0, 0))) := fun W hW => by
    have h3 := hW
    rw [← hz2] at h3
    have h4 := HR0.out
    rw [hz1] at h4
    exact ⟨HT1.out W (st (bel_nw _ _) h3), (h3.block _ (by rw [hz2]; omega)).trans h4⟩
  clear HT1 hz1 HR0
  obtain ⟨⟨m0, m1, m2⟩, hres⟩ := HT.out _ (Below.refl _ _)
  go_enter Tryz.func42, Tryz.ntmps42
  go_wp2_with fail
  clear m0 m1 m2 hres
  generalize hW0 : (w.alloc (.cells #[.slice p.A D.n p.cap, .slice p.B D.m p.bcap, .slice p.C D.N p.ccap] 29)).alloc (.cells #[.slice none 0 0, .slice none 0 0] 66) = W0 at *
  clear hW0
  refine (HCk.out _ HB0.out).mono ?_
  rintro e w1 ⟨rfl, hb1⟩
  rw [hz2] at hb1
  have HB1 : Hid (Below (w.heap.size + 2) W0 w1) := hb1
  have HW1 : Hid (Below w.heap.size w w1) := HB0.out.trans (hb1.mono (by omega))
  clear hb1
  have hz1 : w.heap.size + 2 ≤ w1.heap.size := by rw [← hz2]; exact HB1.out.size
  obtain ⟨⟨m0, m1, m2⟩, hres⟩ := HT.out w1 HB1.out
  obtain ⟨r0, r1, z0, z1⟩ := box_at hres
  by_cases hk0 : ck = 0
  · subst hk0
    by_cases hN0 : D.N = 0
    · have g3 : ((D.N : Int) == 0) = true := by rw [hN0]; rfl
      have HN2 := Lib.hid (HN.out (.inr hN0))
      go_wp2
      refine bodyPost_ret (v := .tuple #[BoxW none none 0 0 0 0, .bool false]) (res_cell_tmp Tryz.results42 _ _ (w.heap.size + 1) 66 _ (0, 0) _ rfl (put2 hres _ _) Tryz.underlying66 rfl (by rw [info_box]; rfl)) rfl ?_
      exact ⟨HN2.out _, (HW1.out.setCell (p := ⟨w.heap.size + 1, 0, none⟩) (by show w.heap.size ≤ w.heap.size + 1; omega) _).setCell (p := ⟨w.heap.size + 1, 1, none⟩) (by show w.heap.size ≤ w.heap.size + 1; omega) _⟩
    · have g3 : ((D.N : Int) == 0) = false := by rw [beq_eq_false_iff_ne]; omega
      have HY2 := Lib.hid (HY.out rfl (by omega))
      have HL := Lib.hid (HLn.out rfl)
      clear HN HY HLn
      obtain ⟨bc, oc, hCe, hbc, hcc⟩ := HCe.out (by omega)
      obtain ⟨P0, pc, Q0, qc0, x0', x1', x2, x3, x4⟩ := hcc 0 (by omega)
      rw [HL.out.2 0 (by omega)] at x0' x2
      rw [Nat.zero_mul, Nat.add_zero] at x0'
      have HCl : Hid (∀ W, Below w1.heap.size w1 W → Calls Tryz.prog 95 #[.slice P0 D.n pc] W fun e w' => ∃ g gc, e = .returned (.slice (some ⟨g, 0, none⟩) D.n gc) ∧ (W.heap.size ≤ g ∧ g < w'.heap.size) ∧ OwnI w' w1.heap.size (.slice (some ⟨g, 0, none⟩) D.n gc) D.n (cc.x 0) ∧ Below W.heap.size W w') := fun W hW =>
        (c_CloneO W P0 D.n pc _ (x2.below (st HW1.out hW)) (by have := HL.out.1; omega) HL.out.1.1).mono fun e w' ⟨P, gc, e1, o1, b1⟩ => by
          obtain ⟨g, cap, e2, h1, h2, -⟩ := o1.put HL.out.1.1
          injection e2 with e3 _ e5
          subst e3 e5
          exact ⟨g, gc, e1, ⟨h1, h2⟩, o1.base hW.size, b1⟩
      have HKe : Hid (∀ W, Below w1.heap.size w1 W → W.cell? ⟨w.heap.size, 2, none⟩ = some (.slice (some ⟨bc, oc, none⟩) D.N p.ccap) ∧ W.cell? ⟨bc, oc, none⟩ = some (.slice P0 D.n pc)) := fun W hW => ⟨by rw [← hCe]; exact (HT.out W (HB1.out.trans (hW.mono (by omega)))).1.2.2, ((st HW1.out hW).cell (p := ⟨bc, oc, none⟩) hbc).trans x0'⟩
      have HKs : Hid (∀ W bb u v, Below w1.heap.size w1 W → w1.heap.size ≤ bb → ((W.setCell ⟨bb, 0, none⟩ u).setCell ⟨bb, 1, none⟩ v).cell? ⟨w.heap.size, 2, none⟩ = some (.slice (some ⟨bc, oc, none⟩) D.N p.ccap) ∧ ((W.setCell ⟨bb, 0, none⟩ u).setCell ⟨bb, 1, none⟩ v).cell? ⟨bc, oc, none⟩ = some (.slice P0 D.n pc)) := fun W bb u v hW hbb => HKe.out _ ((hW.setCell (p := ⟨bb, 0, none⟩) hbb _).setCell (p := ⟨bb, 1, none⟩) hbb _)
      have HCeq := Lib.hid hCe
      have hm2 := (HKe.out w1 (Below.refl _ _)).1
      rw [hCe] at m2 ⊢
      clear hCe hm2 x1' x2 x3 x4 hcc
      obtain ⟨-, x0⟩ := HKe.out w1 (Below.refl _ _)
      have hNp : 0 < D.N := by omega
      clear x0'
      go_wp2_with fail
      rename_i K hK
      clear m0 m1 m2 hres r0 r1 z0 z1 x0
      have key : ∀ (gl cl gh ch bb : Nat) (W2 : World), OwnI W2 w1.heap.size (.slice (some ⟨gl, 0, none⟩) D.n cl) D.n (cc.x 0) → OwnI W2 w1.heap.size (.slice (some ⟨gh, 0, none⟩) D.n ch) D.n (cc.x 0) → W2.heap[bb]? = some (.cells #[.slice (some ⟨gl, 0, none⟩) D.n cl, .slice (some ⟨gh, 0, none⟩) D.n ch] 66 (0, 0)) → Below w1.heap.size w1 W2 → (w1.heap.size ≤ gl ∧ w1.heap.size ≤ gh ∧ w1.heap.size ≤ bb ∧ gl ≠ gh ∧ gl ≠ bb ∧ gh ≠ bb) → K ⟨#[p.val D.n D.m D.N, .pointer (some ⟨w.heap.size, 0, none⟩), .pointer (some ⟨w.heap.size + 1, 0, none⟩), .bool false, .pointer (some ⟨bb, 0, none⟩), undef, undef, undef, undef, .agg #[.slice p.A D.n p.cap, .slice p.B D.m p.bcap, .slice (some ⟨bc, oc, none⟩) D.N p.ccap], .int .i64 0, .bool false, .bool false, .pointer (some ⟨w.heap.size, 2, none⟩), .slice (some ⟨bc, oc, none⟩) D.N p.ccap, .int .i64 (D.N : Int), .bool false, .bool false, undef, .pointer (some ⟨w.heap.size, 2, none⟩), .slice (some ⟨bc, oc, none⟩) D.N p.ccap, .pointer (some ⟨bc, oc, none⟩), .pointer (some ⟨bc, oc, none⟩), .slice P0 D.n pc, .slice (some ⟨gl, 0, none⟩) D.n cl, .pointer (some ⟨w.heap.size, 2, none⟩), .slice (some ⟨bc, oc, none⟩) D.N p.ccap, .pointer (some ⟨bc, oc, none⟩), .pointer (some ⟨bc, oc, none⟩), .slice P0 D.n pc, .slice (some ⟨gh, 0, none⟩) D.n ch, .agg #[.slice (some ⟨gl, 0, none⟩) D.n cl, .slice (some ⟨gh, 0, none⟩) D.n ch], undef, undef, undef, undef, undef, undef, undef, undef, undef, undef, undef, undef, undef, undef, undef, undef, undef, undef, undef, undef, undef, undef, undef, undef, undef, undef, undef, undef, undef, undef, undef, undef, undef, undef, undef, undef, undef, undef, undef, undef], []⟩ W2 := by
        intro gl cl gh ch bb W2 ol oh hbx hb2 hne
        refine hK _ _ ?_
        clear hK
        have HNE := Lib.hid hne
        have OL := Lib.hid ol
        have OH := Lib.hid oh
        have HX := Lib.hid hbx
        have HB2 : Hid (Below (w.heap.size + 2) W0 W2) := HB1.out.trans (hb2.mono (by omega))
        have HCe2 := Lib.hid HCe.out
        clear hne ol oh hbx hb2
        obtain ⟨⟨m0, m1, m2⟩, -⟩ := HT.out W2 HB2.out
        rw [HCeq.out] at m2
        go_wp2_with fail
        clear m0 m1 m2
        have hne := HNE.out
        have hz2' : w.heap.size + 2 ≤ W0.heap.size := by omega
        go_loopw [6, 7, 8, 35] (fun _ _ _ i wr => ∃ k : Nat, k ≤ D.N ∧ i = .int .i64 k ∧ Hid (HuSt w1.heap.size gl cl gh ch bb D.n (w.heap.size + 2) W0 wr (hLo cc.x k) (hHi cc.x k))) (fun _ _ _ i _ => D.N - (intOf i).toNat)
        case atStart => exact ⟨0, Nat.zero_le _, rfl, OL.out, OH.out, HX.out, HB2.out⟩
        case round =>
          obtain ⟨k, hk, rfl, HS⟩ := hrel
          have HWr : Hid (Below w.heap.size w wr) := HB0.out.trans (HS.out.2.2.2.mono (by omega))
          by_cases hlt : k < D.N
          · obtain ⟨bc', oc', hCe', hbc', hcc⟩ := HCe.out (by omega)
            have e9 := HCeq.out.symm.trans hCe'
            injection e9 with e9
            injection e9 with e9 e8
            subst e9 e8
            obtain ⟨P1, pc1, Q1, qc1, x0', x1', x2, x3, x4⟩ := hcc k hlt
            rw [HL.out.2 k hlt] at x0' x2
            have x0 := (HWr.out.cell (p := ⟨bc, oc + k * 2, none⟩) hbc).trans x0'
            have x1 := (HWr.out.cell (p := ⟨bc, oc + k * 2 + 1, none⟩) hbc).trans x1'
            have HX2 := Lib.hid x2
            have hk0 : (0 : Int) ≤ (k : Int) := by omega
            have hkN : (k : Int) < (D.N : Int) := by omega
            have Bb : Below wr.heap.size wr (wr.alloc (.cells #[.slice P1 D.n pc1, .slice Q1 (cc.vl k) qc1] 38)) := bel_nw _ _
            have HSx := Lib.hid (HS.out.below Bb hz2')
            have hHL : ∀ j, hLo cc.x (k + 1) j = min (hLo cc.x k j) (cc.x k j) := fun j => rfl
            have hHH : ∀ j, hHi cc.x (k + 1) j = max (hHi cc.x k j) (cc.x k j) := fun j => rfl
            have HHe := Lib.hid (And.intro hHL hHH)
            clear hCe' hbc' hcc x0' x1' x2 x3 x4 hHL hHH
            go_wp2_with fail
            clear x0 x1
            generalize wr.alloc (.cells #[.slice P1 D.n pc1, .slice Q1 (cc.vl k) qc1] 38) = wx at *
            clear Bb
            go_loopw [7, 8, 42] (fun _ _ i wr => ∃ j : Nat, j ≤ D.n ∧ i = .int .i64 j ∧ Hid (HuSt w1.heap.size gl cl gh ch bb D.n (w.heap.size + 2) W0 wr (mixI (hLo cc.x k) (hLo cc.x (k + 1)) j) (mixI (hHi cc.x k) (hHi cc.x (k + 1)) j))) (fun _ _ i _ => D.n - (intOf i).toNat)
            case atStart => exact ⟨0, Nat.zero_le _, rfl, HSx.out.congr (fun i _ => (if_neg (Nat.not_lt_zero i)).symm) (fun i _ => (if_neg (Nat.not_lt_zero i)).symm)⟩
            case round =>
              obtain ⟨j, hj, rfl, HSj⟩ := hrel
              have HWj : Hid (Below w.heap.size w wr) := HB0.out.trans (HSj.out.2.2.2.mono (by omega))
              by_cases hjl : j < D.n
              · obtain ⟨bp, op, rfl, hbp, hpc⟩ := HX2.out (by omega)
                have c0 := (HWj.out.cell (p := ⟨bp, op + j, none⟩) hbp).trans (hpc j hjl)
                obtain ⟨⟨b0, b1⟩, ⟨hS, hZ⟩, hS2, hZ2⟩ := HSj.out.cells hjl
                rw [mix_at] at hS hS2
                clear hpc
                have hj0 : (0 : Int) ≤ (j : Int) := by omega
                have hn14 := HL.out.1
                have hjN : (j : Int) < (D.n : Int) := by omega
                go_wp2_with fail
                go_still_tail 11, (by kernel_rfl)
                change wpList _ _ _ _ _ wr.drew
                have HSd : Hid (HuSt w1.heap.size gl cl gh ch bb D.n (w.heap.size + 2) W0 wr.drew (mixI (hLo cc.x k) (hLo cc.x (k + 1)) j) (mixI (hHi cc.x k) (hHi cc.x (k + 1)) j)) := ⟨HSj.out.1, HSj.out.2.1, HSj.out.2.2.1, Below.drew HSj.out.2.2.2⟩
                clear b0 b1 hS hZ hS2 hZ2 c0
                generalize wr.drew = w3 at *
                obtain ⟨⟨b0, b1⟩, ⟨hS, hZ⟩, -⟩ := HSd.out.cells hjl
                rw [mix_at] at hS
                go_wp2_with fail
                rw [← HHe.out.1 j]
                have HS4 := Lib.hid ((HSd.out.setL ⟨hne.2.2.2.1, hne.2.2.2.2.1⟩ (by omega) hjl (hLo cc.x (k + 1) j)).congr (fun i _ => mix_upd rfl i) (fun _ _ => rfl))
                clear b0 b1 hS hZ
                generalize w3.setCell ⟨gl, j, none⟩ (.int .i64 (hLo cc.x (k + 1) j)) = w4 at *
                obtain ⟨⟨b0, b1⟩, -, hS2, hZ2⟩ := HS4.out.cells hjl
                rw [mix_at] at hS2
                go_wp2_with fail
                go_still_tail 11, (by kernel_rfl)
                change wpList _ _ _ _ _ w4.drew
                have HS5 : Hid (HuSt w1.heap.size gl cl gh ch bb D.n (w.heap.size + 2) W0 w4.drew (mixI (hLo cc.x k) (hLo cc.x (k + 1)) (j + 1)) (mixI (hHi cc.x k) (hHi cc.x (k + 1)) j)) := ⟨HS4.out.1, HS4.out.2.1, HS4.out.2.2.1, Below.drew HS4.out.2.2.2⟩
                clear b0 b1 hS2 hZ2
                generalize w4.drew = w5 at *
                obtain ⟨⟨b0, b1⟩, -, hS2, hZ2⟩ := HS5.out.cells hjl
                rw [mix_at] at hS2
                go_wp2_with fail
                rw [← HHe.out.2 j]
                have HS6 := Lib.hid ((HS5.out.setH ⟨hne.2.2.2.1, hne.2.2.2.2.2⟩ (by omega) hjl (hHi cc.x (k + 1) j)).congr (fun _ _ => rfl) (fun i _ => mix_upd rfl i))
                clear b0 b1 hS2 hZ2
                generalize w5.setCell ⟨gh, j, none⟩ (.int .i64 (hHi cc.x (k + 1) j)) = w6 at *
                go_wp2
                go_roundw
                case rel => exact ⟨j + 1, by omega, by go_num, HS6.out⟩
                case measure => simp [intOf]; omega
              · obtain rfl : j = D.n := by omega
                have HS6 := Lib.hid (HSj.out.congr (f' := hLo cc.x (k + 1)) (g' := hHi cc.x (k + 1)) (fun i hi => mix_end hi) (fun i hi => mix_end hi))
                go_wp2
                go_roundw
                case rel => exact ⟨k + 1, by omega, by go_num, HS6.out⟩
                case measure => simp [intOf]; omega
          · obtain rfl : k = D.N := by omega
            have hres := (HT.out wr HS.out.2.2.2).2
            obtain ⟨r0, r1, z0, z1⟩ := box_at hres
            obtain ⟨b0, b1, -, -⟩ := box_gen HS.out.2.2.1
            go_wp2
            refine bodyPost_ret (v := .tuple #[BoxW (some ⟨gl, 0, none⟩) (some ⟨gh, 0, none⟩) D.n cl D.n ch, .bool true]) (res_cell_tmp Tryz.results42 _ _ (w.heap.size + 1) 66 _ (0, 0) _ rfl (put2 hres _ _) Tryz.underlying66 rfl (by rw [info_box]; rfl)) rfl ?_
            have gr : wr.grownBy ((wr.setCell ⟨w.heap.size + 1, 0, none⟩ (.slice (some ⟨gl, 0, none⟩) D.n cl)).setCell ⟨w.heap.size + 1, 1, none⟩ (.slice (some ⟨gh, 0, none⟩) D.n ch)) (some (w.heap.size + 1)) := gr2 (grown_set _ _ _ _) (grown_set _ _ _ _)
            exact ⟨HY2.out _ _ _ _ _ (HS.out.1.kept gr (HS.out.1.ne (by omega))).ints' (HS.out.2.1.kept gr (HS.out.2.1.ne (by omega))).ints', (HWr.out.setCell (p := ⟨w.heap.size + 1, 0, none⟩) (by show w.heap.size ≤ w.heap.size + 1; omega) _).setCell (p := ⟨w.heap.size + 1, 1, none⟩) (by show w.heap.size ≤ w.heap.size + 1; omega) _⟩
      have KEY := Lib.hid key
      clear key hK
      have B0d : Below w1.heap.size w1 w1.drew := Below.drew (Below.refl _ _)
      go_region_held3 (fun W => W.cell? ⟨w.heap.size, 2, none⟩ = some (.slice (some ⟨bc, oc, none⟩) D.N p.ccap) ∧ W.cell? ⟨bc, oc, none⟩ = some (.slice P0 D.n pc))
        (first | exact HKs.out _ _ _ _ B3 (by have := B2.size; first | omega | (simp; done)) | exact HKs.out _ _ _ _ (bAl B3) B3.size | exact HKe.out _ B3 | exact HKe.out _ (bAl B3) | exact HKe.out _ B2 | exact HKe.out _ (bAl B2) | exact HKe.out _ B0d | exact HKe.out _ (bDr (bAl (Below.refl _ _))) | exact HKe.out _ (bAl B0d) | exact HKe.out _ (Below.refl _ _))
        (first
          | (go_at_call 95; refine (HCl.out _ B2).mono ?_; rintro e w3 ⟨g3, c3, rfl, l3, o3, hb3⟩; have B3 : Below w1.heap.size w1 w3 := st B2 hb3; have hx3 := (hb3.block _ (Array.getElem?_eq_some_iff.1 hx2).1).trans hx2; obtain ⟨y0, y1, z0, z1⟩ := box_at hx3)
          | (go_at_call 95; refine (HCl.out _ B2).mono ?_; rintro e w3 ⟨g3, c3, rfl, l3, o3, hb3⟩; have B3 : Below w1.heap.size w1 w3 := st B2 hb3)
          | (go_at_call 95; refine (HCl.out _ (bAl B2)).mono ?_; rintro e w3 ⟨g3, c3, rfl, l3, o3, hb3⟩; have B3 : Below w1.heap.size w1 w3 := st (bAl B2) hb3; have hx3 := (hb3.block w2.heap.size (by simp)).trans (heap_alloc_new w2 _); obtain ⟨y0, y1, z0, z1⟩ := box_at hx3)
          | (go_at_call 95; refine (HCl.out _ B0d).mono ?_; rintro e w2 ⟨g2, c2, rfl, l2, o2, hb2⟩; have B2 : Below w1.heap.size w1 w2 := st B0d hb2)
          | (go_at_call 95; refine (HCl.out _ (bAl B0d)).mono ?_; rintro e w2 ⟨g2, c2, rfl, l2, o2, hb2⟩; have B2 : Below w1.heap.size w1 w2 := st (bAl B0d) hb2; have hx2 := (hb2.block w1.heap.size (by show w1.heap.size < (w1.alloc (.cells #[.slice none 0 0, .slice none 0 0] 66)).heap.size; simp)).trans (heap_alloc_new w1 _))
          | (go_at_call 95; refine (HCl.out _ (bDr (bAl (Below.refl _ _)))).mono ?_; rintro e w2 ⟨g2, c2, rfl, l2, o2, hb2⟩; have B2 : Below w1.heap.size w1 w2 := st (bDr (bAl (Below.refl _ _))) hb2; have hx2 := (hb2.block w1.heap.size (by show w1.heap.size < (w1.alloc (.cells #[.slice none 0 0, .slice none 0 0] 66)).heap.size; simp)).trans (heap_alloc_new w1 _)))
      · have s1 := B2.size
        have s2 : w2.heap.size ≤ w3.heap.size := by have := hb3.size; first | omega | (simp only [World.size_alloc] at this; omega)
        have l2a := l2.2
        have l3b := l3.2
        have l2b : w1.heap.size ≤ g2 := l2.1
        have l3a : w2.heap.size ≤ g3 := l3.1
        exact KEY.out _ _ _ _ w3.heap.size _ ((o2.below hb3).below (bel_nw _ _)) (o3.below (bel_nw _ _)) (heap_alloc_new w3 _) (bAl B3) (by omega)
      · have s1 := B2.size
        have s2 : w2.heap.size ≤ w3.heap.size := by have := hb3.size; first | omega | (simp only [World.size_alloc] at this; omega)
        have l2a := l2.2
        have l3b := l3.2
        have l2b : w1.heap.size ≤ g2 := l2.1
        have l3a : w2.heap.size + 1 ≤ g3 := by have := l3.1; simp only [World.size_alloc] at this; exact this
        exact KEY.out _ _ _ _ _ _ (hull_end ((o2.below (bel_nw _ _)).below hb3) o3 hx3 (by omega) (by omega)).1 (hull_end ((o2.below (bel_nw _ _)).below hb3) o3 hx3 (by omega) (by omega)).2.1 (hull_end ((o2.below (bel_nw _ _)).below hb3) o3 hx3 (by omega) (by omega)).2.2 ((B3.setCell (p := ⟨w2.heap.size, 0, none⟩) (by omega) _).setCell (p := ⟨w2.heap.size, 1, none⟩) (by omega) _) (by omega)
      · have s1 := B2.size
        have s2 : w2.heap.size ≤ w3.heap.size := by have := hb3.size; first | omega | (simp only [World.size_alloc] at this; omega)
        have l2a := l2.2
        have l3b := l3.2
        have l2b : w1.heap.size + 1 ≤ g2 := Nat.le_trans (by show w1.heap.size + 1 ≤ (w1.alloc (.cells #[.slice none 0 0, .slice none 0 0] 66)).heap.size; simp) l2.1
        have l3a : w2.heap.size ≤ g3 := l3.1
        exact KEY.out _ _ _ _ _ _ (hull_end (o2.below hb3) o3 hx3 (by omega) (by omega)).1 (hull_end (o2.below hb3) o3 hx3 (by omega) (by omega)).2.1 (hull_end (o2.below hb3) o3 hx3 (by omega) (by omega)).2.2 ((B3.setCell (p := ⟨w1.heap.size, 0, none⟩) (Nat.le_refl _) _).setCell (p := ⟨w1.heap.size, 1, none⟩) (Nat.le_refl _) _) (by omega)
  · have g2 : (ck != 0) = true := by rw [bne_iff_ne]; exact hk0
    have HN2 := Lib.hid (HN.out (.inl hk0))
    go_wp2
    refine bodyPost_ret (v := .tuple #[BoxW none none 0 0 0 0, .bool false]) (res_cell_tmp Tryz.results42 _ _ (w.heap.size + 1) 66 _ (0, 0) _ rfl (put2 hres _ _) Tryz.underlying66 rfl (by rw [info_box]; rfl)) rfl ?_
    exact ⟨HN2.out _, (HW1.out.setCell (p := ⟨w.heap.size + 1, 0, none⟩) (by show w.heap.size ≤ w.heap.size + 1; omega) _).setCell (p := ⟨w.heap.size + 1, 1, none⟩) (by show w.heap.size ≤ w.heap.size + 1; omega) _⟩
end Go.Proofs.YtkckoanphciddaaGreatDoor
