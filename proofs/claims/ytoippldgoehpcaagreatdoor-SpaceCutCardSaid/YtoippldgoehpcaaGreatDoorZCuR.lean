/- The cells of an array in a box: the reference. -/
import Derived.Test.YtoippldgoehpcaaGreatDoorZCuS
import Derived.Test.YtoippldgoehpcaaGreatDoorZBxB
namespace Go.Proofs.YtoippldgoehpcaaGreatDoor
open Go Go.RowKit Go.Deep

set_option maxRecDepth 100000 in
set_option maxHeartbeats 8000000 in
theorem r_Cut (w : World) (p : ArP) (D : ArD) (L H : Option Addr) (nb c mb d : Nat) (l h : Nat → Int) (ha : ArAt w p D) (ho : ArOk D) (hl : IntsAt w L nb l) (hh : IntsAt w H mb h) (hnb : nb ≤ 1000) :
    Calls Tryz.prog 42 #[p.val D.n D.m D.N, BoxW L H nb c mb d] w fun e w' => CutR D nb mb l h e w' ∧ Below w.heap.size w w' := by
  have HCk : Hid (∀ W, Below w.heap.size w W → Calls Tryz.prog 18 #[p.val D.n D.m D.N] W fun e w' => e = .returned (.int .i64 D.check) ∧ Below W.heap.size W w') := fun W hW => ar_Check W p D (ha.below hW) ho
  have HFo : Hid (∀ W, Calls Tryz.prog 100 #[BoxW L H nb c mb d] W fun e w' => e = .returned (.bool (formB nb mb)) ∧ Below W.heap.size W w') := fun W => r_formed W L H nb c mb d
  have HHa : Hid (∀ W P k pc, Below w.heap.size w W → k < D.N → IntsAt W P (D.c.ln k) (D.c.x k) → Calls Tryz.prog 101 #[BoxW L H nb c mb d, .slice P (D.c.ln k) pc] W fun e w' => e = .returned (.bool (inBox D nb mb l h k)) ∧ Below W.heap.size W w') := fun W P k pc hW hk hx => r_Has W L H P nb c mb d _ pc l h _ (hl.below hW) (hh.below hW) hx (by have := (ho.cS k hk).1; omega) hnb
  have HE : Hid (∀ W, Below w.heap.size w W → Calls Tryz.prog 75 #[.slice p.A D.n p.cap, .slice p.B D.m p.bcap] W fun e w' => ∃ P c' Q d', e = .returned (ArrV P D.n c' Q D.m d' none 0 0) ∧ DimsAt w' P D.n D.nm D.lo D.hi ∧ AttrsAt w' Q D.m D.an D.ty ∧ Up W.heap.size P ∧ Up W.heap.size Q ∧ Below W.heap.size W w') := fun W hW => r_Empty W p.A p.B D.n p.cap D.m p.bcap _ _ _ _ _ (ha.dims.below hW) (ha.attrs.below hW) (by have := ho.n1; omega) (by have := ho.m1; omega)
  have HCp := Lib.hid (fun (W : World) (A : Option Addr) (k pc : Nat) (B : Option Addr) (qc : Nat) (hk : k < D.N) (hi : IntsAt W A (D.c.ln k) (D.c.x k)) (hv : ValsAt W B (D.c.vl k) (D.c.vk k) (D.c.vn k) (D.c.vd k) (D.c.vs k)) => r_CopyCell W A B (D.c.ln k) pc (D.c.vl k) qc _ _ _ _ _ hi hv (by have := (ho.cS k hk).1; omega) (by have := (ho.cS k hk).2.1; omega))
  have HY : Hid (D.check = 0 → formB nb mb = true → nb = D.n → ∀ (q : ArP) W, ArAt W q (cutY D nb mb l h) → CutR D nb mb l h (.returned (.tuple #[q.val D.n D.m (cutY D nb mb l h).N, .int .i64 0])) W) := fun h1 h2 h3 q W hq => by
    have e : cutE D nb mb = 0 := by
      subst h3
      unfold cutE
      rw [if_neg (by rw [h1]; decide), h2]
      simp
    refine ⟨q, cutY D nb mb l h, by rw [e]; rfl, hq, ?_⟩
    unfold cutD
    rw [if_pos e]
    rfl
  have HN2 : Hid (D.check ≠ 0 → ∀ W, CutR D nb mb l h (.returned (.tuple #[ArrV none 0 0 none 0 0 none 0 0, .int .i64 2])) W) := fun h1 W => by
    have e : cutE D nb mb = 2 := by simp [cutE, h1]
    refine ⟨⟨none, 0, none, 0, none, 0⟩, noAr, by rw [e]; rfl, noAr_at _, ?_⟩
    unfold cutD
    rw [if_neg (by rw [e]; decide)]
  have HN13 : Hid (D.check = 0 → (formB nb mb && nb == D.n) = false → ∀ W, CutR D nb mb l h (.returned (.tuple #[ArrV none 0 0 none 0 0 none 0 0, .int .i64 13])) W) := fun h1 h2 W => by
    have e : cutE D nb mb = 13 := by simp [cutE, h1, h2]
    refine ⟨⟨none, 0, none, 0, none, 0⟩, noAr, by rw [e]; rfl, noAr_at _, ?_⟩
    unfold cutD
    rw [if_neg (by rw [e]; decide)]
  have HCe := Lib.hid ha.cells
  have HPk : Hid (∀ k, k < D.N → inBox D nb mb l h k = true → pickI (inBox D nb mb l h) D.N (cntTo (inBox D nb mb l h) k) = k) := fun k hk hp => pickI_at hk hp
  have HCn : Hid ((∀ k, inBox D nb mb l h k = true → cntTo (inBox D nb mb l h) (k + 1) = cntTo (inBox D nb mb l h) k + 1) ∧ (∀ k, inBox D nb mb l h k = false → cntTo (inBox D nb mb l h) (k + 1) = cntTo (inBox D nb mb l h) k) ∧ ∀ k, cntTo (inBox D nb mb l h) k ≤ k) := ⟨fun k => cntTo_yes, fun k => cntTo_no, cntTo_le _⟩
  have HYc : Hid ((cutY D nb mb l h).N = cntTo (inBox D nb mb l h) D.N ∧ (cutY D nb mb l h).c = D.c.pick (pickI (inBox D nb mb l h) D.N)) := ⟨rfl, rfl⟩
  have HYd : Hid (∀ (q : ArP) W, DimsAt W q.A D.n D.nm D.lo D.hi → AttrsAt W q.B D.m D.an D.ty → CeAt W q.C (cutY D nb mb l h).N (cutY D nb mb l h).c → ArAt W q (cutY D nb mb l h)) := fun q W h1 h2 h3 => ⟨h1, h2, h3⟩
  have HYo : Hid (CeOk (cutY D nb mb l h).N (cutY D nb mb l h).c) := pick_ok ho.cS
  have hN := ho.N1
  clear ha ho hl hh
  generalize CutR D nb mb l h = R at *
  generalize cutY D nb mb l h = Y at *
  generalize inBox D nb mb l h = pb at *
  generalize D.check = ck at *
  generalize D.c = cc at *
  have HT1 := Lib.hid (arr_box w (.slice p.A D.n p.cap) (.slice p.B D.m p.bcap) (.slice p.C D.N p.ccap) 26)
  have HT2 := Lib.hid (cel_box (w.alloc (p.obj D.n D.m D.N)) (.slice L nb c) (.slice H mb d) 66)
  have HR0 := Lib.hid (heap_alloc_new ((w.alloc (p.obj D.n D.m D.N)).alloc (.cells #[.slice L nb c, .slice H mb d] 66)) (.cells #[.slice none 0 0, .slice none 0 0, .slice none 0 0] 26))
  have hz1 : (w.alloc (p.obj D.n D.m D.N)).heap.size = w.heap.size + 1 := by simp
  have hz2 : ((w.alloc (p.obj D.n D.m D.N)).alloc (.cells #[.slice L nb c, .slice H mb d] 66)).heap.size = w.heap.size + 2 := by simp
  have hz3 : (((w.alloc (p.obj D.n D.m D.N)).alloc (.cells #[.slice L nb c, .slice H mb d] 66)).alloc (.cells #[.slice none 0 0, .slice none 0 0, .slice none 0 0] 26)).heap.size = w.heap.size + 3 := by simp
  have HB0 : Hid (Below w.heap.size w (((w.alloc (p.obj D.n D.m D.N)).alloc (.cells #[.slice L nb c, .slice H mb d] 66)).alloc (.cells #[.slice none 0 0, .slice none 0 0, .slice none 0 0] 26))) := (((Below.refl _ _).alloc (Nat.le_refl _) _).alloc (by simp) _).alloc (by simp; omega) _
  have HT : Hid (∀ W, Below (w.heap.size + 3) (((w.alloc (p.obj D.n D.m D.N)).alloc (.cells #[.slice L nb c, .slice H mb d] 66)).alloc (.cells #[.slice none 0 0, .slice none 0 0, .slice none 0 0] 26)) W → (W.cell? ⟨w.heap.size, 0, none⟩ = some (.slice p.A D.n p.cap) ∧ W.cell? ⟨w.heap.size, 1, none⟩ = some (.slice p.B D.m p.bcap) ∧ W.cell? ⟨w.heap.size, 2, none⟩ = some (.slice p.C D.N p.ccap)) ∧ (W.cell? ⟨w.heap.size + 1, 0, none⟩ = some (.slice L nb c) ∧ W.cell? ⟨w.heap.size + 1, 1, none⟩ = some (.slice H mb d))) := fun W hW => by
    have h3 := hW
    rw [← hz3] at h3
    have h2 := HT2.out W (st (bel_nw _ _) h3)
    rw [hz1] at h2
    exact ⟨HT1.out W (st (bel_nw _ _) (st (bel_nw _ _) h3)), h2⟩
  rw [hz2] at HR0
  clear HT1 HT2 hz1 hz2
  obtain ⟨⟨m0, m1, m2⟩, m3, m4⟩ := HT.out _ (Below.refl _ _)
  go_enter Tryz.func42, Tryz.ntmps42
  go_wp2_with fail
  clear m0 m1 m2 m3 m4
  generalize hW0 : ((w.alloc (.cells #[.slice p.A D.n p.cap, .slice p.B D.m p.bcap, .slice p.C D.N p.ccap] 26)).alloc (.cells #[.slice L nb c, .slice H mb d] 66)).alloc (.cells #[.slice none 0 0, .slice none 0 0, .slice none 0 0] 26) = W0 at *
  clear hW0
  refine (HCk.out _ HB0.out).mono ?_
  rintro e w1 ⟨rfl, hb1⟩
  rw [hz3] at hb1
  have HB1 : Hid (Below (w.heap.size + 3) W0 w1) := hb1
  have HW1 : Hid (Below w.heap.size w w1) := HB0.out.trans (hb1.mono (by omega))
  clear hb1
  have hz1 : w.heap.size + 3 ≤ w1.heap.size := by rw [← hz3]; exact HB1.out.size
  have HR1 : Hid (∀ W, Below (w.heap.size + 3) W0 W → W.heap[w.heap.size + 2]? = some (.cells #[.slice none 0 0, .slice none 0 0, .slice none 0 0] 26 (0, 0))) := fun W hW => (hW.block _ (by omega)).trans HR0.out
  by_cases hk0 : ck = 0
  · subst hk0
    obtain ⟨⟨m0, m1, m2⟩, m3, m4⟩ := HT.out w1 HB1.out
    go_wp2_with fail
    refine (HFo.out w1).mono ?_
    rintro e w2 ⟨rfl, hb2⟩
    have HB2 : Hid (Below (w.heap.size + 3) W0 w2) := HB1.out.trans (hb2.mono hz1)
    have HW2 : Hid (Below w.heap.size w w2) := st HW1.out hb2
    have hz2 : w.heap.size + 3 ≤ w2.heap.size := by rw [← hz3]; exact HB2.out.size
    clear hb2 m0 m1 m2 m3 m4 HB1 HW1 hz1 HFo HN2
    have HN13' := Lib.hid (HN13.out trivial)
    have HY' := Lib.hid (HY.out trivial)
    clear HN13 HY
    obtain ⟨⟨m0, m1, m2⟩, m3, m4⟩ := HT.out w2 HB2.out
    obtain ⟨⟨y0, y1, y2⟩, z0, z1, z2⟩ := three_at (HR1.out w2 HB2.out)
    obtain ⟨fb, hfb⟩ : ∃ fb, formB nb mb = fb := ⟨_, rfl⟩
    rw [hfb] at HN13' HY' ⊢
    clear hfb
    cases fb with
    | false =>
      have HX13 := Lib.hid (HN13'.out (by simp))
      clear HN13' HY'
      go_wp2
      refine bodyPost_ret (v := .tuple #[ArrV none 0 0 none 0 0 none 0 0, .int .i64 13]) (res_cell_tmp Tryz.results42 _ _ (w.heap.size + 2) 26 _ (0, 0) _ rfl (three_set (HR1.out w2 HB2.out) _ _ _) Tryz.underlying26 rfl (by rw [info_arr]; rfl)) rfl ?_
      exact ⟨HX13.out _, ((HW2.out.setCell (p := ⟨w.heap.size + 2, 0, none⟩) (by show w.heap.size ≤ w.heap.size + 2; omega) _).setCell (p := ⟨w.heap.size + 2, 1, none⟩) (by show w.heap.size ≤ w.heap.size + 2; omega) _).setCell (p := ⟨w.heap.size + 2, 2, none⟩) (by show w.heap.size ≤ w.heap.size + 2; omega) _⟩
    | true =>
      have HN13 := Lib.hid (fun h : (nb == D.n) = false => HN13'.out (by rw [Bool.true_and]; exact h))
      have HY := Lib.hid (HY'.out rfl)
      clear HN13' HY'
      by_cases hnn : nb = D.n
      · subst hnn
        have HY2 := Lib.hid (HY.out rfl)
        clear HY HN13
        have g3 : ((D.n : Int) != (D.n : Int)) = false := by simp
        go_wp2_with fail
        refine (HE.out _ HW2.out).mono ?_
        rintro e w3 ⟨P, c', Q, d', rfl, hd1, ha1, u1, u2, hb3⟩
        have HB3 : Hid (Below (w.heap.size + 3) W0 w3) := HB2.out.trans (hb3.mono hz2)
        have HW3 : Hid (Below w.heap.size w w3) := st HW2.out hb3
        have hz3' : w.heap.size + 3 ≤ w3.heap.size := Nat.le_trans hz2 hb3.size
        clear m0 m1 m2 m3 m4 y0 y1 y2 z0 z1 z2
        obtain ⟨⟨m0, m1, m2⟩, m3, m4⟩ := HT.out w3 HB3.out
        have HPb : Hid ((0 < D.n → ∀ a, P = some a → a.block < w3.heap.size) ∧ (0 < D.m → ∀ a, Q = some a → a.block < w3.heap.size)) := ⟨fun hn a ha => hd1.row.lt hn ha, fun hn a ha => ha1.row.lt hn ha⟩
        have HU : Hid (Up (w.heap.size + 3) P ∧ Up (w.heap.size + 3) Q) := ⟨u1.mono hz2, u2.mono hz2⟩
        have B3 := bel_nw w3 (.cells #[.slice P D.n c', .slice Q D.m d', .slice none 0 0] 26)
        have HD4 := Lib.hid (hd1.below B3)
        have HA4 := Lib.hid (ha1.below B3)
        have HB4 : Hid (Below (w.heap.size + 3) W0 (w3.alloc (.cells #[.slice P D.n c', .slice Q D.m d', .slice none 0 0] 26))) := HB3.out.trans (B3.mono hz3')
        have HX4 := Lib.hid (heap_alloc_new w3 (.cells #[.slice P D.n c', .slice Q D.m d', .slice none 0 0] 26))
        have HO4 := Lib.hid (OwnC.nil (Up (w3.heap.size + 1)) (w3.alloc (.cells #[.slice P D.n c', .slice Q D.m d', .slice none 0 0] 26)) (w3.heap.size + 1) (cc.pick (pickI pb D.N)))
        clear hd1 ha1 u1 u2 hb3 HE B3 HB2 HW2
        go_wp2_with fail
        go_loopw [7] (fun i wr => ∃ (k : Nat) (x : Value), k ≤ D.N ∧ i = .int .i64 k ∧ Hid (wr.heap[w3.heap.size]? = some (.cells #[.slice P D.n c', .slice Q D.m d', x] 26 (0, 0))) ∧ Hid (OwnC (Up (w3.heap.size + 1)) wr (w3.heap.size + 1) x (cntTo pb k) (cc.pick (pickI pb D.N))) ∧ Hid (DimsAt wr P D.n D.nm D.lo D.hi) ∧ Hid (AttrsAt wr Q D.m D.an D.ty) ∧ Hid (Below (w.heap.size + 3) W0 wr)) (fun i _ => D.N - (intOf i).toNat)
        case atStart => exact ⟨0, _, Nat.zero_le _, rfl, HX4.out, HO4.out, HD4.out, HA4.out, HB4.out⟩
        case round =>
          obtain ⟨k, x, hk, rfl, HX, HOw, HDr, HAr, HBr⟩ := hrel
          have HWr : Hid (Below w.heap.size w wr) := HB0.out.trans (HBr.out.mono (by omega))
          clear m0 m1 m2 m3 m4 HX4 HO4 HD4 HA4 HB4
          obtain ⟨⟨m0, m1, m2⟩, m3, m4⟩ := HT.out wr HBr.out
          have hzr : w.heap.size + 3 ≤ wr.heap.size := by rw [← hz3]; exact HBr.out.size
          by_cases hlt : k < D.N
          · obtain ⟨bc, oc, hCe, hbc, hcc⟩ := HCe.out (by omega)
            obtain ⟨P0, pc, Q0, qc0, x0', x1', x2, x3, x4⟩ := hcc k hlt
            have hsz1 : w3.heap.size < wr.heap.size := (Array.getElem?_eq_some_iff.1 HX.out).1
            have HKr : Hid (∀ W, Below w.heap.size w W → W.cell? ⟨bc, oc + k * 2, none⟩ = some (.slice P0 (cc.ln k) pc) ∧ W.cell? ⟨bc, oc + k * 2 + 1, none⟩ = some (.slice Q0 (cc.vl k) qc0)) := fun W hW => ⟨(hW.cell (p := ⟨bc, oc + k * 2, none⟩) hbc).trans x0', (hW.cell (p := ⟨bc, oc + k * 2 + 1, none⟩) hbc).trans x1'⟩
            obtain ⟨x0, x1⟩ := HKr.out wr HWr.out
            clear hcc x0' x1'
            have m2' := m2
            rw [hCe] at m2
            have HCEq := Lib.hid hCe
            clear hCe
            have HX2 := Lib.hid x2
            have HX3 := Lib.hid x3
            have hk0 : (0 : Int) ≤ (k : Int) := by omega
            have hkN : (k : Int) < (D.N : Int) := by omega
            clear x2 x3 m2'
            have HKe : Hid (∀ W, Below wr.heap.size wr W → (W.cell? ⟨w.heap.size + 1, 0, none⟩ = some (.slice L D.n c) ∧ W.cell? ⟨w.heap.size + 1, 1, none⟩ = some (.slice H mb d)) ∧ W.cell? ⟨w.heap.size, 2, none⟩ = some (.slice (some ⟨bc, oc, none⟩) D.N p.ccap) ∧ W.cell? ⟨bc, oc + k * 2, none⟩ = some (.slice P0 (cc.ln k) pc)) := fun W hW => ⟨(HT.out W (HBr.out.trans (hW.mono hzr))).2, by rw [← HCEq.out]; exact (HT.out W (HBr.out.trans (hW.mono hzr))).1.2.2, (HKr.out W (st HWr.out hW)).1⟩
            have B0d : Below wr.heap.size wr wr.drew := Below.drew (Below.refl _ _)
            have HHk : Hid (∀ W, Below wr.heap.size wr W → Calls Tryz.prog 101 #[BoxW L H D.n c mb d, .slice P0 (cc.ln k) pc] W fun e w' => e = .returned (.bool (pb k)) ∧ Below W.heap.size W w') := fun W hW => HHa.out W P0 k pc (st HWr.out hW) hlt (HX2.out.below (st HWr.out hW))
            obtain ⟨bk, hp⟩ : ∃ bk, pb k = bk := ⟨_, rfl⟩
            rw [hp] at HHk
            have HP := Lib.hid hp
            clear hp
            go_wp2_with fail
            go_region_held3 (fun W => (W.cell? ⟨w.heap.size + 1, 0, none⟩ = some (.slice L D.n c) ∧ W.cell? ⟨w.heap.size + 1, 1, none⟩ = some (.slice H mb d)) ∧ W.cell? ⟨w.heap.size, 2, none⟩ = some (.slice (some ⟨bc, oc, none⟩) D.N p.ccap) ∧ W.cell? ⟨bc, oc + k * 2, none⟩ = some (.slice P0 (cc.ln k) pc))
              (first | exact HKe.out _ B1 | exact HKe.out _ B0d | exact HKe.out _ (Below.refl _ _))
              (first | (go_at_call 101; refine (HHk.out _ B0d).mono ?_; rintro e w5 ⟨rfl, hb5'⟩; have B1 : Below wr.heap.size wr w5 := st B0d hb5'))
            have hb5 := B1
            clear m0 m1 m2 m3 m4 x0 x1
            have HB5 : Hid (Below (w.heap.size + 3) W0 w5) := HBr.out.trans (hb5.mono hzr)
            have HW5 : Hid (Below w.heap.size w w5) := st HWr.out hb5
            have HOw5 := Lib.hid (HOw.out.below hb5)
            have HX5 := Lib.hid ((hb5.block _ hsz1).trans HX.out)
            have HD5 := Lib.hid (HDr.out.below hb5)
            have HA5 := Lib.hid (HAr.out.below hb5)
            have hcl := HCn.out.2.2 k
            have hz5 : wr.heap.size ≤ w5.heap.size := hb5.size
            clear hb5 HBr HWr HOw HX HDr HAr
            have hp := HP.out
            cases bk
            · have HE := Lib.hid (HCn.out.2.1 k hp)
              clear hp
              go_wp2
              go_roundw
              case rel => exact ⟨k + 1, x, by omega, by go_num, HX5.out, by rw [HE.out]; exact HOw5.out, HD5.out, HA5.out, HB5.out⟩
              case measure => simp [intOf]; omega
            · have HE := Lib.hid (HCn.out.1 k hp)
              have HPI := Lib.hid (HPk.out k hlt hp)
              clear hp
              have HCk2 : Hid (∀ W, Below w5.heap.size w5 W → Calls Tryz.prog 76 #[.agg #[.slice P0 (cc.ln k) pc, .slice Q0 (cc.vl k) qc0]] W fun e w' => ∃ P' c' Q' d', e = .returned (.agg #[.slice P' (cc.ln k) c', .slice Q' (cc.vl k) d']) ∧ IntsAt w' P' (cc.ln k) (cc.x k) ∧ ValsAt w' Q' (cc.vl k) (cc.vk k) (cc.vn k) (cc.vd k) (cc.vs k) ∧ Up W.heap.size P' ∧ Up W.heap.size Q' ∧ Below W.heap.size W w') := fun W hW => HCp.out W P0 k pc Q0 qc0 hlt ((HX2.out.below HW5.out).below hW) ((HX3.out.below HW5.out).below hW)
              have HKq : Hid (∀ W, Below w5.heap.size w5 W → W.cell? ⟨w.heap.size, 2, none⟩ = some (.slice (some ⟨bc, oc, none⟩) D.N p.ccap) ∧ W.cell? ⟨bc, oc + k * 2, none⟩ = some (.slice P0 (cc.ln k) pc) ∧ W.cell? ⟨bc, oc + k * 2 + 1, none⟩ = some (.slice Q0 (cc.vl k) qc0) ∧ W.heap[w3.heap.size]? = some (.cells #[.slice P D.n c', .slice Q D.m d', x] 26 (0, 0))) := fun W hW => ⟨by rw [← HCEq.out]; exact (HT.out W (HB5.out.trans (hW.mono (by omega)))).1.2.2, (HKr.out W (st HW5.out hW)).1, (HKr.out W (st HW5.out hW)).2, (hW.block _ (by omega)).trans HX5.out⟩
              go_wp2_with fail
              rename_i K hK
              refine wp_region_TK (n1 := 9) (T := TL [isW (.pointer (some ⟨w3.heap.size, 2, none⟩)), isW x, isW (.pointer (some ⟨w.heap.size, 2, none⟩)), isW (.slice (some ⟨bc, oc, none⟩) D.N p.ccap), isW (.int .i64 k), isW (.pointer (some ⟨bc, oc + k * 2, none⟩)), isW (.agg #[.slice P0 (cc.ln k) pc, .slice Q0 (cc.vl k) qc0]), CpV cc k w5.heap.size, CpS cc k w5.heap.size]) (by kernel_rfl) (by decide) (by kernel_rfl) (by kernel_rfl) ?step ?tail
              case step =>
                intro listed a W i HL hi9 hilt
                have dl := HL.dl (l := [some 45, some 46, some 47, some 48, some 49, some 50, some 51, some 52, some 53, some 54, some 55, none]) rfl
                have ap := apart_of dl (by decide)
                obtain ⟨q2, q3, q4, q5⟩ := HKq.out W HL.below
                have hBW := HL.below.size
                have mono : ∀ p' ∈ [isW (.pointer (some ⟨w3.heap.size, 2, none⟩)), isW x, isW (.pointer (some ⟨w.heap.size, 2, none⟩)), isW (.slice (some ⟨bc, oc, none⟩) D.N p.ccap), isW (.int .i64 k), isW (.pointer (some ⟨bc, oc + k * 2, none⟩)), isW (.agg #[.slice P0 (cc.ln k) pc, .slice Q0 (cc.vl k) qc0]), CpV cc k w5.heap.size, CpS cc k w5.heap.size], Mono p' := by
                  intro p' hp
                  simp only [List.mem_cons, List.not_mem_nil, or_false] at hp
                  rcases hp with rfl | rfl | rfl | rfl | rfl | rfl | rfl | rfl | rfl
                  · exact isW_mono _
                  · exact isW_mono _
                  · exact isW_mono _
                  · exact isW_mono _
                  · exact isW_mono _
                  · exact isW_mono _
                  · exact isW_mono _
                  · exact cpV_mono _ _ _
                  · exact cpS_mono _ _ _
                rcases (by omega : i = 0 ∨ i = 1 ∨ i = 2 ∨ i = 3 ∨ i = 4 ∨ i = 5 ∨ i = 6 ∨ i = 7 ∨ i = 8) with rfl | rfl | rfl | rfl | rfl | rfl | rfl | rfl | rfl
                · exact wpOp_of rfl (.inl rfl) (op_fA (by decide) rfl rfl (HL.old 6 (old_of' dl 6 (by decide))) (HL.over mono ap rfl rfl (by simp) (Below.refl _ _) rfl))
                · exact wpOp_of rfl (.inl rfl) (op_lsl (.inr (.inr (.inr (.inr rfl)))) rfl rfl (HL.got' hi9 (j := 0) (t := 45) rfl (by kernel_rfl) rfl rfl) (three_at q5).1.2.2 (HL.over mono ap rfl rfl (by simp) (Below.refl _ _) rfl))
                · exact wpOp_of rfl (.inl rfl) (op_fA (by decide) rfl rfl (HL.old 2 (old_of' dl 2 (by decide))) (HL.over mono ap rfl rfl (by simp) (Below.refl _ _) rfl))
                · exact wpOp_of rfl (.inl rfl) (op_lsl (.inr (.inr (.inr (.inr rfl)))) rfl rfl (HL.got' hi9 (j := 2) (t := 47) rfl (by kernel_rfl) rfl rfl) q2 (HL.over mono ap rfl rfl (by simp) (Below.refl _ _) rfl))
                · exact wpOp_of rfl (.inl rfl) (op_mv rfl rfl (HL.over mono ap rfl rfl (by simp) (Below.refl _ _) (HL.old 7 (old_of' dl 7 (by decide)))))
                · exact wpOp_of rfl (.inl rfl) (op_ix rfl rfl (HL.got' hi9 (j := 3) (t := 48) rfl (by kernel_rfl) rfl rfl) (HL.got' hi9 (j := 4) (t := 49) rfl (by kernel_rfl) rfl rfl) hlt (HL.over mono ap rfl rfl (by simp) (Below.refl _ _) rfl))
                · exact wpOp_of rfl (.inl rfl) (op_ldc rfl rfl (HL.got' hi9 (j := 5) (t := 50) rfl (by kernel_rfl) rfl rfl) q3 q4 (HL.over mono ap rfl rfl (by simp) (Below.refl _ _) rfl))
                · refine wpOp_of rfl (.inl rfl) (op_T1 rfl rfl (HL.got' hi9 (j := 6) (t := 51) rfl (by kernel_rfl) rfl rfl) (enters_of Tryz.func76 (by kernel_rfl) rfl) ((HCk2.out W HL.below).mono ?_))
                  rintro e w1 ⟨P', c', Q', d', rfl, h1, h2, h3, h4, h5⟩
                  exact ⟨_, rfl, HL.over mono ap rfl rfl (by simp) h5 ⟨P', c', Q', d', rfl, ⟨h1, h3.mono hBW⟩, h2, h4.mono hBW⟩⟩
                · obtain ⟨P', c', Q', d', e1, d1, d2, d3⟩ := HL.got' hi9 (j := 7) (t := 52) rfl (by kernel_rfl) rfl rfl
                  exact wpOp_of rfl (.inl rfl) (op_bs1 rfl rfl e1 (HL.over mono ap rfl rfl (by simp) (bel_nw W _) ⟨_, P', c', Q', d', rfl, hBW, heap_alloc_new W _, ⟨d1.1.below (bel_nw W _), d1.2⟩, d2.below (bel_nw W _), d3⟩))
              case tail =>
                intro listed a W HL hall
                have e1 := HL.got 1 _ 46 rfl rfl (hall 1 (by decide))
                obtain ⟨b, P', ce, Q', dd, e2, f1, f2, ⟨f3, f4⟩, f5, f6⟩ := HL.got 8 _ 53 rfl rfl (hall 8 (by decide))
                have dl := HL.dl (l := [some 45, some 46, some 47, some 48, some 49, some 50, some 51, some 52, some 53, some 54, some 55, none]) rfl
                have s0 := HL.old 0 (old_of' dl 0 (by decide))
                have s1 := HL.old 1 (old_of' dl 1 (by decide))
                have s2 := HL.old 2 (old_of' dl 2 (by decide))
                have s3 := HL.old 3 (old_of' dl 3 (by decide))
                have s4 := HL.old 4 (old_of' dl 4 (by decide))
                have s5 := HL.old 5 (old_of' dl 5 (by decide))
                have s6 := HL.old 6 (old_of' dl 6 (by decide))
                have s7 := HL.old 7 (old_of' dl 7 (by decide))
                have s8 := HL.old 8 (old_of' dl 8 (by decide))
                have s9 := HL.old 9 (old_of' dl 9 (by decide))
                have s10 := HL.old 10 (old_of' dl 10 (by decide))
                have s11 := HL.old 11 (old_of' dl 11 (by decide))
                have s12 := HL.old 12 (old_of' dl 12 (by decide))
                have s13 := HL.old 13 (old_of' dl 13 (by decide))
                have s14 := HL.old 14 (old_of' dl 14 (by decide))
                have s15 := HL.old 15 (old_of' dl 15 (by decide))
                have s16 := HL.old 16 (old_of' dl 16 (by decide))
                have s17 := HL.old 17 (old_of' dl 17 (by decide))
                have s18 := HL.old 18 (old_of' dl 18 (by decide))
                have s19 := HL.old 19 (old_of' dl 19 (by decide))
                have s20 := HL.old 20 (old_of' dl 20 (by decide))
                have s21 := HL.old 21 (old_of' dl 21 (by decide))
                have s22 := HL.old 22 (old_of' dl 22 (by decide))
                have s23 := HL.old 23 (old_of' dl 23 (by decide))
                have s24 := HL.old 24 (old_of' dl 24 (by decide))
                have s25 := HL.old 25 (old_of' dl 25 (by decide))
                have s26 := HL.old 26 (old_of' dl 26 (by decide))
                have s27 := HL.old 27 (old_of' dl 27 (by decide))
                have s28 := HL.old 28 (old_of' dl 28 (by decide))
                have s29 := HL.old 29 (old_of' dl 29 (by decide))
                have s56 := HL.old 56 (old_of' dl 56 (by decide))
                obtain ⟨f, hf, rfl⟩ := actlitf 57 a (HL.frame.trans (by simp)) (HL.defers.trans rfl)
                rw [show List.range 57 = [0, 1, 2, 3, 4, 5, 6, 7, 8, 9, 10, 11, 12, 13, 14, 15, 16, 17, 18, 19, 20, 21, 22, 23, 24, 25, 26, 27, 28, 29, 30, 31, 32, 33, 34, 35, 36, 37, 38, 39, 40, 41, 42, 43, 44, 45, 46, 47, 48, 49, 50, 51, 52, 53, 54, 55, 56] from rfl]
                simp only [List.map_cons, List.map_nil]
                have q0 : f 0 = p.val D.n D.m D.N := (hf 0).symm.trans s0
                have q1 : f 1 = BoxW L H D.n c mb d := (hf 1).symm.trans s1
                have q2 : f 2 = .pointer (some ⟨w.heap.size, 0, none⟩) := (hf 2).symm.trans s2
                have q3 : f 3 = .pointer (some ⟨w.heap.size + 1, 0, none⟩) := (hf 3).symm.trans s3
                have q4 : f 4 = .pointer (some ⟨w.heap.size + 1 + 1, 0, none⟩) := (hf 4).symm.trans s4
                have q5 : f 5 = .int .i64 0 := (hf 5).symm.trans s5
                have q6 : f 6 = .pointer (some ⟨w3.heap.size, 0, none⟩) := (hf 6).symm.trans s6
                have q7 : f 7 = .int .i64 k := (hf 7).symm.trans s7
                have q8 : f 8 = .agg #[.slice p.A D.n p.cap, .slice p.B D.m p.bcap, .slice p.C D.N p.ccap] := (hf 8).symm.trans s8
                have q9 : f 9 = .int .i64 0 := (hf 9).symm.trans s9
                have q10 : f 10 = .bool false := (hf 10).symm.trans s10
                have q11 : f 11 = undef := (hf 11).symm.trans s11
                have q12 : f 12 = .agg #[.slice L D.n c, .slice H mb d] := (hf 12).symm.trans s12
                have q13 : f 13 = .bool true := (hf 13).symm.trans s13
                have q14 : f 14 = .bool false := (hf 14).symm.trans s14
                have q15 : f 15 = .bool false := (hf 15).symm.trans s15
                have q16 : f 16 = .pointer (some ⟨w.heap.size + 1, 0, none⟩) := (hf 16).symm.trans s16
                have q17 : f 17 = .slice L D.n c := (hf 17).symm.trans s17
                have q18 : f 18 = .int .i64 (D.n : Int) := (hf 18).symm.trans s18
                have q19 : f 19 = .pointer (some ⟨w.heap.size, 0, none⟩) := (hf 19).symm.trans s19
                have q20 : f 20 = .slice p.A D.n p.cap := (hf 20).symm.trans s20
                have q21 : f 21 = .int .i64 (D.n : Int) := (hf 21).symm.trans s21
                have q22 : f 22 = .bool false := (hf 22).symm.trans s22
                have q23 : f 23 = .bool false := (hf 23).symm.trans s23
                have q24 : f 24 = undef := (hf 24).symm.trans s24
                have q25 : f 25 = .pointer (some ⟨w.heap.size, 0, none⟩) := (hf 25).symm.trans s25
                have q26 : f 26 = .slice p.A D.n p.cap := (hf 26).symm.trans s26
                have q27 : f 27 = .pointer (some ⟨w.heap.size, 1, none⟩) := (hf 27).symm.trans s27
                have q28 : f 28 = .slice p.B D.m p.bcap := (hf 28).symm.trans s28
                have q29 : f 29 = ArrV P D.n c' Q D.m d' none 0 0 := (hf 29).symm.trans s29
                have q56 : f 56 = undef := (hf 56).symm.trans s56
                have q46 : f 46 = x := (hf 46).symm.trans e1
                have q53 : f 53 = .slice (some ⟨b, 0, none⟩) 1 1 := (hf 53).symm.trans e2
                rw [q0, q1, q2, q3, q4, q5, q6, q7, q8, q9, q10, q11, q12, q13, q14, q15, q16, q17, q18, q19, q20, q21, q22, q23, q24, q25, q26, q27, q28, q29, q56, q46, q53]
                have hb0 := HL.below
                have hoW := HOw5.out.below hb0
                have hxb : ∀ g, x.ownBlock = some g → g < w5.heap.size := fun g hg => (HOw5.out.block hg).2
                have hq : (W.heap[b]? = some (.cells #[.slice P' ((cc.pick (pickI pb D.N)).ln (cntTo pb k)) ce, .slice Q' ((cc.pick (pickI pb D.N)).vl (cntTo pb k)) dd] 41 (0, 0))) ∧
                    IntsAt W P' ((cc.pick (pickI pb D.N)).ln (cntTo pb k)) ((cc.pick (pickI pb D.N)).x (cntTo pb k)) ∧
                    ValsAt W Q' ((cc.pick (pickI pb D.N)).vl (cntTo pb k)) ((cc.pick (pickI pb D.N)).vk (cntTo pb k)) ((cc.pick (pickI pb D.N)).vn (cntTo pb k)) ((cc.pick (pickI pb D.N)).vd (cntTo pb k)) ((cc.pick (pickI pb D.N)).vs (cntTo pb k)) := by
                  simp only [CeD.pick, HPI.out]
                  exact ⟨f2, f3, f5⟩
                clear e1 e2 s0 s1 s2 s3 s4 s5 s6 s7 s8 s9 s10 s11 s12 s13 s14 s15 s16 s17 s18 s19 s20 s21 s22 s23 s24 s25 s26 s27 s28 s29 s56 q0 q1 q2 q3 q4 q5 q6 q7 q8 q9 q10 q11 q12 q13 q14 q15 q16 q17 q18 q19 q20 q21 q22 q23 q24 q25 q26 q27 q28 q29 q56 q46 q53 hf dl hall HL
                refine wpList_appC rfl (.tmp 46) (.tmp 53) rfl W (Up (w3.heap.size + 1)) (w3.heap.size + 1) x (cntTo pb k) (cc.pick (pickI pb D.N)) rfl b rfl P' Q' ce dd hq.1 hq.2.1 hq.2.2 ⟨f4.mono (by omega), f6.mono (by omega)⟩ ⟨fun _ => f4.own hxb (Nat.le_refl _), fun _ => f6.own hxb (Nat.le_refl _)⟩ hoW (by omega) (by have := hb0.size; omega) ?_
                intro v' w2 hown hgr hat
                obtain ⟨A', cp', hv', -⟩ := hown.row
                subst hv'
                have hob : w3.heap.size < W.heap.size := by have := hb0.size; omega
                have hnb : some w3.heap.size ≠ x.ownBlock := fun e => by have := (HOw5.out.block e.symm).1; omega
                have hx2 : w2.heap[w3.heap.size]? = some (.cells #[.slice P D.n c', .slice Q D.m d', x] 26 (0, 0)) := (hgr.block _ hob hnb).trans ((hb0.block _ (by omega)).trans HX5.out)
                have gr : w2.grownBy (w2.setCell ⟨w3.heap.size, 2, none⟩ (.slice A' (cntTo pb k + 1) cp')) (some w3.heap.size) := grown_set _ _ _ _
                have HX2' : Hid ((w2.setCell ⟨w3.heap.size, 2, none⟩ (.slice A' (cntTo pb k + 1) cp')).heap[w3.heap.size]? = some (.cells #[.slice P D.n c', .slice Q D.m d', .slice A' (cntTo pb k + 1) cp'] 26 (0, 0))) := by
                  show _ = _
                  simp [World.setCell, Array.getElem?_modify, hx2]
                have HO2 := Lib.hid (hown.set gr (Nat.lt_succ_self _) (fun A hA a ha => by have := (hA a ha).1; omega))
                have how : ∀ (A : Option Addr) (z : Nat) (m : Nat) (g : Nat → Nat → Value), RowAt w5 A m z g → (0 < m → ∀ a, A = some a → a.block < w3.heap.size) → RowAt (w2.setCell ⟨w3.heap.size, 2, none⟩ (.slice A' (cntTo pb k + 1) cp')) A m z g := fun A z m g hr h1 =>
                  (((hr.below hb0).grownO hgr (fun hm a ha e => by have := (HOw5.out.block e).1; have := h1 hm a ha; omega)).grown gr (fun hm a ha => Nat.ne_of_lt (h1 hm a ha)))
                have HD2 := Lib.hid (how _ _ _ _ HD5.out.row HPb.out.1).dims
                have HA2 := Lib.hid (how _ _ _ _ HA5.out.row HPb.out.2).attrs
                have HB2 : Hid (Below (w.heap.size + 3) W0 (w2.setCell ⟨w3.heap.size, 2, none⟩ (.slice A' (cntTo pb k + 1) cp'))) := ((HB5.out.trans (hb0.mono (by omega))).grown hgr (by have := hb0.size; omega) (fun g hg => by have := (HOw5.out.block hg).1; omega)).setCell (p := ⟨w3.heap.size, 2, none⟩) (by show w.heap.size + 3 ≤ w3.heap.size; omega) _
                have y2 := (three_at hx2).1.2.2
                have y3 := (three_at hx2).2.2.2
                clear how gr hx2 hnb hat hgr hown f1 f2 f3 f4 f5 f6 hoW hxb hb0 hq
                go_wp2
                go_roundw
                case rel => exact ⟨k + 1, _, by omega, by go_num, HX2'.out, by rw [HE.out]; exact HO2.out, HD2.out, HA2.out, HB2.out⟩
                case measure => simp [intOf]; omega
          · obtain rfl : k = D.N := by omega
            have hno : OwnC (Up (w3.heap.size + 1)) wr (w3.heap.size + 1) x Y.N Y.c := by
              rw [HYc.out.1, HYc.out.2]
              exact HOw.out
            obtain ⟨A', cp', hv', hce⟩ := hno.up (Nat.le_refl _) HYo.out
            subst hv'
            have HCE := Lib.hid hce
            have hres := HR1.out wr HBr.out
            obtain ⟨⟨y0, y1, y2⟩, -⟩ := three_at HX.out
            obtain ⟨⟨r0, r1, r2⟩, z0, z1, z2⟩ := three_at hres
            clear hno hce
            go_wp2
            refine bodyPost_ret (v := .tuple #[ArrV P D.n c' Q D.m d' A' Y.N cp', .int .i64 0]) (res_cell_tmp Tryz.results42 _ _ (w.heap.size + 2) 26 _ (0, 0) _ rfl (three_set hres _ _ _) Tryz.underlying26 rfl (by rw [info_arr]; rfl)) rfl ?_
            have gr : wr.grownBy (((wr.setCell ⟨w.heap.size + 2, 0, none⟩ (.slice P D.n c')).setCell ⟨w.heap.size + 2, 1, none⟩ (.slice Q D.m d')).setCell ⟨w.heap.size + 2, 2, none⟩ (.slice A' Y.N cp')) (some (w.heap.size + 2)) := gr2 (gr2 (grown_set _ _ _ _) (grown_set _ _ _ _)) (grown_set _ _ _ _)
            exact ⟨HY2.out ⟨P, c', Q, d', A', cp'⟩ _ (HYd.out _ _ (HDr.out.row.grown gr (HU.out.1.ne (by omega))).dims (HAr.out.row.grown gr (HU.out.2.ne (by omega))).attrs (HCE.out.grown gr (by omega)).at), ((HWr.out.setCell (p := ⟨w.heap.size + 2, 0, none⟩) (by show w.heap.size ≤ w.heap.size + 2; omega) _).setCell (p := ⟨w.heap.size + 2, 1, none⟩) (by show w.heap.size ≤ w.heap.size + 2; omega) _).setCell (p := ⟨w.heap.size + 2, 2, none⟩) (by show w.heap.size ≤ w.heap.size + 2; omega) _⟩
      · have g3 : ((nb : Int) != (D.n : Int)) = true := by rw [bne_iff_ne]; omega
        have HX13 := Lib.hid (HN13.out (by rw [beq_eq_false_iff_ne]; exact hnn))
        clear HN13 HY
        go_wp2
        refine bodyPost_ret (v := .tuple #[ArrV none 0 0 none 0 0 none 0 0, .int .i64 13]) (res_cell_tmp Tryz.results42 _ _ (w.heap.size + 2) 26 _ (0, 0) _ rfl (three_set (HR1.out w2 HB2.out) _ _ _) Tryz.underlying26 rfl (by rw [info_arr]; rfl)) rfl ?_
        exact ⟨HX13.out _, ((HW2.out.setCell (p := ⟨w.heap.size + 2, 0, none⟩) (by show w.heap.size ≤ w.heap.size + 2; omega) _).setCell (p := ⟨w.heap.size + 2, 1, none⟩) (by show w.heap.size ≤ w.heap.size + 2; omega) _).setCell (p := ⟨w.heap.size + 2, 2, none⟩) (by show w.heap.size ≤ w.heap.size + 2; omega) _⟩
  · have g2 : (ck != 0) = true := by rw [bne_iff_ne]; exact hk0
    obtain ⟨⟨y0, y1, y2⟩, z0, z1, z2⟩ := three_at (HR1.out w1 HB1.out)
    go_wp2
    refine bodyPost_ret (v := .tuple #[ArrV none 0 0 none 0 0 none 0 0, .int .i64 2]) (res_cell_tmp Tryz.results42 _ _ (w.heap.size + 2) 26 _ (0, 0) _ rfl (three_set (HR1.out w1 HB1.out) _ _ _) Tryz.underlying26 rfl (by rw [info_arr]; rfl)) rfl ?_
    exact ⟨HN2.out hk0 _, ((HW1.out.setCell (p := ⟨w.heap.size + 2, 0, none⟩) (by show w.heap.size ≤ w.heap.size + 2; omega) _).setCell (p := ⟨w.heap.size + 2, 1, none⟩) (by show w.heap.size ≤ w.heap.size + 2; omega) _).setCell (p := ⟨w.heap.size + 2, 2, none⟩) (by show w.heap.size ≤ w.heap.size + 2; omega) _⟩
end Go.Proofs.YtoippldgoehpcaaGreatDoor
