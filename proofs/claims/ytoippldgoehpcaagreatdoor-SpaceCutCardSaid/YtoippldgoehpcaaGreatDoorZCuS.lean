/- The cells of an array in a box: the program. -/
import Derived.Test.YtoippldgoehpcaaGreatDoorZGet
import Derived.Test.YtoippldgoehpcaaGreatDoorZRfQ
namespace Go.Proofs.YtoippldgoehpcaaGreatDoor
open Go Go.RowKit Go.Deep

/-- What Cut returns. -/
def CutR (D : ArD) (nb mb : Nat) (l h : Nat → Int) (e : Ending) (w' : World) : Prop :=
  ∃ (q : ArP) (E : ArD), e = .returned (.tuple #[q.val E.n E.m E.N, .int .i64 (cutE D nb mb)]) ∧ ArAt w' q E ∧ E = cutD D nb mb l h
/-- The array that Cut returns where there is no error. -/
def cutY (D : ArD) (nb mb : Nat) (l h : Nat → Int) : ArD := ⟨D.n, D.nm, D.lo, D.hi, D.m, D.an, D.ty, cntTo (inBox D nb mb l h) D.N, D.c.pick (pickI (inBox D nb mb l h) D.N)⟩

set_option maxRecDepth 100000 in
set_option maxHeartbeats 8000000 in
theorem s_Cut (w : World) (p : ArP) (D : ArD) (L H : Option Addr) (nb c mb d : Nat) (l h : Nat → Int) (ha : ArAt w p D) (ho : ArOk D) (hl : IntsAt w L nb l) (hh : IntsAt w H mb h) (hnb : nb ≤ 1000) :
    Calls Tryz.prog 41 #[p.val D.n D.m D.N, BoxW L H nb c mb d] w fun e w' => CutR D nb mb l h e w' ∧ Below w.heap.size w w' := by
  have HCk : Hid (∀ W, Below w.heap.size w W → Calls Tryz.prog 17 #[p.val D.n D.m D.N] W fun e w' => e = .returned (.int .i64 D.check) ∧ Below W.heap.size W w') := fun W hW => as_Check W p D (ha.below hW) ho
  have HFo : Hid (∀ W, Calls Tryz.prog 98 #[BoxW L H nb c mb d] W fun e w' => e = .returned (.bool (formB nb mb)) ∧ Below W.heap.size W w') := fun W => s_formed W L H nb c mb d
  have HHa : Hid (∀ W P k pc, Below w.heap.size w W → k < D.N → IntsAt W P (D.c.ln k) (D.c.x k) → Calls Tryz.prog 99 #[BoxW L H nb c mb d, .slice P (D.c.ln k) pc] W fun e w' => e = .returned (.bool (inBox D nb mb l h k)) ∧ Below W.heap.size W w') := fun W P k pc hW hk hx => s_Has W L H P nb c mb d _ pc l h _ (hl.below hW) (hh.below hW) hx (by have := (ho.cS k hk).1; omega) hnb
  have HCo : Hid (∀ W C cc, Below w.heap.size w W → CeAt W C (cutY D nb mb l h).N (cutY D nb mb l h).c → Calls Tryz.prog 80 #[.slice p.A D.n p.cap, .slice p.B D.m p.bcap, .slice C (cutY D nb mb l h).N cc] W fun e w' => ∃ q : ArP, e = .returned (q.val D.n D.m (cutY D nb mb l h).N) ∧ ArUp w' W.heap.size q (cutY D nb mb l h) ∧ Below W.heap.size W w') := fun W C cc hW hC =>
    s_copied W p.A p.B C D.n p.cap D.m p.bcap _ cc _ _ _ _ _ _ (ha.dims.below hW) (ha.attrs.below hW) hC ho.n1 ho.m1 (by have := cntTo_le (inBox D nb mb l h) D.N; have := ho.N1; show cntTo (inBox D nb mb l h) D.N ≤ _; omega) (pick_ok ho.cS)
  have HY : Hid (D.check = 0 → formB nb mb = true → nb = D.n → ∀ (q : ArP) W, ArAt W q (cutY D nb mb l h) → CutR D nb mb l h (.returned (.tuple #[q.val D.n D.m (cutY D nb mb l h).N, .int .i64 0])) W) := fun h1 h2 h3 q W hq => by
    have e : cutE D nb mb = 0 := by
      subst h3
      unfold cutE
      rw [if_neg (by rw [h1]; decide), h2]
      simp
    refine ⟨q, cutY D nb mb l h, by rw [e]; rfl, hq, ?_⟩
    unfold cutD
    rw [if_pos e]
    rfl
  have HN2 : Hid (D.check ≠ 0 → ∀ W, CutR D nb mb l h (.returned (.tuple #[ArrV none 0 0 none 0 0 none 0 0, .int .i64 2])) W) := fun h1 W => by
    have e : cutE D nb mb = 2 := by simp [cutE, h1]
    refine ⟨⟨none, 0, none, 0, none, 0⟩, noAr, by rw [e]; rfl, noAr_at _, ?_⟩
    unfold cutD
    rw [if_neg (by rw [e]; decide)]
  have HN13 : Hid (D.check = 0 → (formB nb mb && nb == D.n) = false → ∀ W, CutR D nb mb l h (.returned (.tuple #[ArrV none 0 0 none 0 0 none 0 0, .int .i64 13])) W) := fun h1 h2 W => by
    have e : cutE D nb mb = 13 := by simp [cutE, h1, h2]
    refine ⟨⟨none, 0, none, 0, none, 0⟩, noAr, by rw [e]; rfl, noAr_at _, ?_⟩
    unfold cutD
    rw [if_neg (by rw [e]; decide)]
  have HCe := Lib.hid ha.cells
  have HPk : Hid (∀ k, k < D.N → inBox D nb mb l h k = true → pickI (inBox D nb mb l h) D.N (cntTo (inBox D nb mb l h) k) = k) := fun k hk hp => pickI_at hk hp
  have HCn : Hid ((∀ k, inBox D nb mb l h k = true → cntTo (inBox D nb mb l h) (k + 1) = cntTo (inBox D nb mb l h) k + 1) ∧ (∀ k, inBox D nb mb l h k = false → cntTo (inBox D nb mb l h) (k + 1) = cntTo (inBox D nb mb l h) k) ∧ ∀ k, cntTo (inBox D nb mb l h) k ≤ k) := ⟨fun k => cntTo_yes, fun k => cntTo_no, cntTo_le _⟩
  have HYc : Hid ((cutY D nb mb l h).N = cntTo (inBox D nb mb l h) D.N ∧ (cutY D nb mb l h).c = D.c.pick (pickI (inBox D nb mb l h) D.N)) := ⟨rfl, rfl⟩
  have HYo : Hid (CeOk (cutY D nb mb l h).N (cutY D nb mb l h).c) := pick_ok ho.cS
  have hN := ho.N1
  clear ha ho hl hh
  generalize CutR D nb mb l h = R at *
  generalize cutY D nb mb l h = Y at *
  generalize inBox D nb mb l h = pb at *
  generalize D.check = ck at *
  generalize D.c = cc at *
  have HT1 := Lib.hid (arr_box w (.slice p.A D.n p.cap) (.slice p.B D.m p.bcap) (.slice p.C D.N p.ccap) 26)
  have HT2 := Lib.hid (cel_box (w.alloc (p.obj D.n D.m D.N)) (.slice L nb c) (.slice H mb d) 66)
  have HR0 := Lib.hid (heap_alloc_new ((w.alloc (p.obj D.n D.m D.N)).alloc (.cells #[.slice L nb c, .slice H mb d] 66)) (.cells #[.slice none 0 0, .slice none 0 0, .slice none 0 0] 26))
  have hz1 : (w.alloc (p.obj D.n D.m D.N)).heap.size = w.heap.size + 1 := by simp
  have hz2 : ((w.alloc (p.obj D.n D.m D.N)).alloc (.cells #[.slice L nb c, .slice H mb d] 66)).heap.size = w.heap.size + 2 := by simp
  have hz3 : (((w.alloc (p.obj D.n D.m D.N)).alloc (.cells #[.slice L nb c, .slice H mb d] 66)).alloc (.cells #[.slice none 0 0, .slice none 0 0, .slice none 0 0] 26)).heap.size = w.heap.size + 3 := by simp
  have HB0 : Hid (Below w.heap.size w (((w.alloc (p.obj D.n D.m D.N)).alloc (.cells #[.slice L nb c, .slice H mb d] 66)).alloc (.cells #[.slice none 0 0, .slice none 0 0, .slice none 0 0] 26))) := (((Below.refl _ _).alloc (Nat.le_refl _) _).alloc (by simp) _).alloc (by simp; omega) _
  have HT : Hid (∀ W, Below (w.heap.size + 3) (((w.alloc (p.obj D.n D.m D.N)).alloc (.cells #[.slice L nb c, .slice H mb d] 66)).alloc (.cells #[.slice none 0 0, .slice none 0 0, .slice none 0 0] 26)) W → (W.cell? ⟨w.heap.size, 0, none⟩ = some (.slice p.A D.n p.cap) ∧ W.cell? ⟨w.heap.size, 1, none⟩ = some (.slice p.B D.m p.bcap) ∧ W.cell? ⟨w.heap.size, 2, none⟩ = some (.slice p.C D.N p.ccap)) ∧ (W.cell? ⟨w.heap.size + 1, 0, none⟩ = some (.slice L nb c) ∧ W.cell? ⟨w.heap.size + 1, 1, none⟩ = some (.slice H mb d))) := fun W hW => by
    have h3 := hW
    rw [← hz3] at h3
    have h2 := HT2.out W (st (bel_nw _ _) h3)
    rw [hz1] at h2
    exact ⟨HT1.out W (st (bel_nw _ _) (st (bel_nw _ _) h3)), h2⟩
  rw [hz2] at HR0
  clear HT1 HT2 hz1 hz2
  obtain ⟨⟨m0, m1, m2⟩, m3, m4⟩ := HT.out _ (Below.refl _ _)
  go_enter Tryz.func41, Tryz.ntmps41
  go_wp2_with fail
  clear m0 m1 m2 m3 m4
  generalize hW0 : ((w.alloc (.cells #[.slice p.A D.n p.cap, .slice p.B D.m p.bcap, .slice p.C D.N p.ccap] 26)).alloc (.cells #[.slice L nb c, .slice H mb d] 66)).alloc (.cells #[.slice none 0 0, .slice none 0 0, .slice none 0 0] 26) = W0 at *
  clear hW0
  refine (HCk.out _ HB0.out).mono ?_
  rintro e w1 ⟨rfl, hb1⟩
  rw [hz3] at hb1
  have HB1 : Hid (Below (w.heap.size + 3) W0 w1) := hb1
  have HW1 : Hid (Below w.heap.size w w1) := HB0.out.trans (hb1.mono (by omega))
  clear hb1
  have hz1 : w.heap.size + 3 ≤ w1.heap.size := by rw [← hz3]; exact HB1.out.size
  have HR1 : Hid (∀ W, Below (w.heap.size + 3) W0 W → W.heap[w.heap.size + 2]? = some (.cells #[.slice none 0 0, .slice none 0 0, .slice none 0 0] 26 (0, 0))) := fun W hW => (hW.block _ (by omega)).trans HR0.out
  by_cases hk0 : ck = 0
  · subst hk0
    obtain ⟨⟨m0, m1, m2⟩, m3, m4⟩ := HT.out w1 HB1.out
    go_wp2_with fail
    refine (HFo.out w1).mono ?_
    rintro e w2 ⟨rfl, hb2⟩
    have HB2 : Hid (Below (w.heap.size + 3) W0 w2) := HB1.out.trans (hb2.mono hz1)
    have HW2 : Hid (Below w.heap.size w w2) := st HW1.out hb2
    have hz2 : w.heap.size + 3 ≤ w2.heap.size := by rw [← hz3]; exact HB2.out.size
    clear hb2 m0 m1 m2 m3 m4 HB1 HW1 hz1 HFo HN2
    have HN13' := Lib.hid (HN13.out trivial)
    have HY' := Lib.hid (HY.out trivial)
    clear HN13 HY
    obtain ⟨⟨m0, m1, m2⟩, m3, m4⟩ := HT.out w2 HB2.out
    obtain ⟨⟨y0, y1, y2⟩, z0, z1, z2⟩ := three_at (HR1.out w2 HB2.out)
    obtain ⟨fb, hfb⟩ : ∃ fb, formB nb mb = fb := ⟨_, rfl⟩
    rw [hfb] at HN13' HY' ⊢
    clear hfb
    cases fb with
    | false =>
      have HX13 := Lib.hid (HN13'.out (by simp))
      clear HN13' HY'
      go_wp2
      refine bodyPost_ret (v := .tuple #[ArrV none 0 0 none 0 0 none 0 0, .int .i64 13]) (res_cell_tmp Tryz.results41 _ _ (w.heap.size + 2) 26 _ (0, 0) _ rfl (three_set (HR1.out w2 HB2.out) _ _ _) Tryz.underlying26 rfl (by rw [info_arr]; rfl)) rfl ?_
      exact ⟨HX13.out _, ((HW2.out.setCell (p := ⟨w.heap.size + 2, 0, none⟩) (by show w.heap.size ≤ w.heap.size + 2; omega) _).setCell (p := ⟨w.heap.size + 2, 1, none⟩) (by show w.heap.size ≤ w.heap.size + 2; omega) _).setCell (p := ⟨w.heap.size + 2, 2, none⟩) (by show w.heap.size ≤ w.heap.size + 2; omega) _⟩
    | true =>
      have HN13 := Lib.hid (fun h : (nb == D.n) = false => HN13'.out (by rw [Bool.true_and]; exact h))
      have HY := Lib.hid (HY'.out rfl)
      clear HN13' HY'
      by_cases hnn : nb = D.n
      · subst hnn
        have HY2 := Lib.hid (HY.out rfl)
        clear HY HN13
        have g3 : ((D.n : Int) != (D.n : Int)) = false := by simp
        go_wp2_with fail
        clear m0 m1 m2 m3 m4 y0 y1 y2 z0 z1 z2
        go_loopw [6, 8, 29] (fun x _ i wr => ∃ k : Nat, k ≤ D.N ∧ i = .int .i64 k ∧ Hid (OwnC (fun _ => True) wr (w.heap.size + 3) x (cntTo pb k) (cc.pick (pickI pb D.N))) ∧ Hid (Below (w.heap.size + 3) W0 wr)) (fun _ _ i _ => D.N - (intOf i).toNat)
        case atStart => exact ⟨0, Nat.zero_le _, rfl, OwnC.nil _ _ _ _, HB2.out⟩
        case round =>
          rename_i x _ i
          obtain ⟨k, hk, rfl, HOw, HBr⟩ := hrel
          obtain ⟨XA, xc, rfl, -⟩ := HOw.out.row
          have HWr : Hid (Below w.heap.size w wr) := HB0.out.trans (HBr.out.mono (by omega))
          obtain ⟨⟨m0, m1, m2⟩, m3, m4⟩ := HT.out wr HBr.out
          have hzr : w.heap.size + 3 ≤ wr.heap.size := by rw [← hz3]; exact HBr.out.size
          by_cases hlt : k < D.N
          · obtain ⟨bc, oc, hCe, hbc, hcc⟩ := HCe.out (by omega)
            obtain ⟨P0, pc, Q0, qc0, x0', x1', x2, x3, x4⟩ := hcc k hlt
            have x0 := (HWr.out.cell (p := ⟨bc, oc + k * 2, none⟩) hbc).trans x0'
            have x1 := (HWr.out.cell (p := ⟨bc, oc + k * 2 + 1, none⟩) hbc).trans x1'
            have hPlt : 0 < cc.ln k → ∀ a, P0 = some a → a.block < w.heap.size := fun hn a ha => x2.row.lt hn ha
            have hQlt : 0 < cc.vl k → ∀ a, Q0 = some a → a.block < w.heap.size := fun hn a ha => x3.row.lt hn ha
            clear x0' x1'
            clear hcc
            rw [hCe] at m2 ⊢
            have HX2 := Lib.hid x2
            have HX3 := Lib.hid x3
            have HPQ := Lib.hid (And.intro hPlt hQlt)
            have hk0 : (0 : Int) ≤ (k : Int) := by omega
            have hkN : (k : Int) < (D.N : Int) := by omega
            have Bb : Below wr.heap.size wr (wr.alloc (.cells #[.slice P0 (cc.ln k) pc, .slice Q0 (cc.vl k) qc0] 41)) := bel_nw _ _
            have KC := Lib.hid (cel_box wr (.slice P0 (cc.ln k) pc) (.slice Q0 (cc.vl k) qc0) 41)
            have HBx : Hid (Below (w.heap.size + 3) W0 (wr.alloc (.cells #[.slice P0 (cc.ln k) pc, .slice Q0 (cc.vl k) qc0] 41))) := HBr.out.trans (Bb.mono hzr)
            have HWx : Hid (Below w.heap.size w (wr.alloc (.cells #[.slice P0 (cc.ln k) pc, .slice Q0 (cc.vl k) qc0] 41))) := st HWr.out Bb
            obtain ⟨n0, n1⟩ := KC.out _ (Below.refl _ _)
            obtain ⟨⟨-, -, -⟩, m3', m4'⟩ := HT.out _ HBx.out
            clear x2 x3 hPlt hQlt
            go_wp2_with fail
            clear m0 m1 m2 m3 m4 m3' m4' n0 n1 x0 x1
            generalize hwx : wr.alloc (.cells #[.slice P0 (cc.ln k) pc, .slice Q0 (cc.vl k) qc0] 41) = wx at *
            clear hwx
            refine (HHa.out _ P0 k pc HWx.out hlt (HX2.out.below HWx.out)).mono ?_
            rintro e w3 ⟨rfl, hb3⟩
            obtain ⟨n0, n1⟩ := KC.out w3 hb3
            have hzx : w.heap.size + 3 ≤ wx.heap.size := Nat.le_trans hzr Bb.size
            have HB3 : Hid (Below (w.heap.size + 3) W0 w3) := HBx.out.trans (hb3.mono hzx)
            have HW3 : Hid (Below w.heap.size w w3) := st HWx.out hb3
            have HOw3 := Lib.hid ((HOw.out.below Bb).below hb3)
            have hz3' : w.heap.size + 3 ≤ w3.heap.size := Nat.le_trans hzx hb3.size
            have hcl := HCn.out.2.2 k
            clear hb3 Bb HBx HWx HOw HBr HWr
            cases hp : pb k
            · have HE := Lib.hid (HCn.out.2.1 k hp)
              clear hp
              go_wp2
              go_roundw
              case rel => exact ⟨k + 1, by omega, by go_num, by rw [HE.out]; exact HOw3.out, HB3.out⟩
              case measure => simp [intOf]; omega
            · have HE := Lib.hid (HCn.out.1 k hp)
              have HPI := Lib.hid (HPk.out k hlt hp)
              clear hp
              have hq : ((w3.alloc (.cells #[.slice P0 (cc.ln k) pc, .slice Q0 (cc.vl k) qc0] 41)).heap[w3.heap.size]? = some (.cells #[.slice P0 ((cc.pick (pickI pb D.N)).ln (cntTo pb k)) pc, .slice Q0 ((cc.pick (pickI pb D.N)).vl (cntTo pb k)) qc0] 41 (0, 0))) ∧
                  IntsAt (w3.alloc (.cells #[.slice P0 (cc.ln k) pc, .slice Q0 (cc.vl k) qc0] 41)) P0 ((cc.pick (pickI pb D.N)).ln (cntTo pb k)) ((cc.pick (pickI pb D.N)).x (cntTo pb k)) ∧
                  ValsAt (w3.alloc (.cells #[.slice P0 (cc.ln k) pc, .slice Q0 (cc.vl k) qc0] 41)) Q0 ((cc.pick (pickI pb D.N)).vl (cntTo pb k)) ((cc.pick (pickI pb D.N)).vk (cntTo pb k)) ((cc.pick (pickI pb D.N)).vn (cntTo pb k)) ((cc.pick (pickI pb D.N)).vd (cntTo pb k)) ((cc.pick (pickI pb D.N)).vs (cntTo pb k)) ∧
                  ((0 < (cc.pick (pickI pb D.N)).ln (cntTo pb k) → ∀ a, P0 = some a → (Value.slice XA (cntTo pb k) xc).ownBlock ≠ some a.block) ∧ (0 < (cc.pick (pickI pb D.N)).vl (cntTo pb k) → ∀ a, Q0 = some a → (Value.slice XA (cntTo pb k) xc).ownBlock ≠ some a.block)) := by
                simp only [CeD.pick, HPI.out]
                exact ⟨heap_alloc_new _ _, (HX2.out.below HW3.out).below (bel_nw _ _), (HX3.out.below HW3.out).below (bel_nw _ _), fun hn a ha e => by have := (HOw3.out.block e).1; have := HPQ.out.1 hn a ha; omega, fun hn a ha e => by have := (HOw3.out.block e).1; have := HPQ.out.2 hn a ha; omega⟩
              have HQ := Lib.hid hq
              have HOw4 := Lib.hid (HOw3.out.below (bel_nw w3 (.cells #[.slice P0 (cc.ln k) pc, .slice Q0 (cc.vl k) qc0] 41)))
              have HB4 := Lib.hid (HB3.out.alloc hz3' (.cells #[.slice P0 (cc.ln k) pc, .slice Q0 (cc.vl k) qc0] 41))
              have hn6 : cntTo pb k ≤ 1000000 := by omega
              have hz4 : w.heap.size + 3 ≤ (w3.alloc (.cells #[.slice P0 (cc.ln k) pc, .slice Q0 (cc.vl k) qc0] 41)).heap.size := by simp; omega
              clear hq
              go_wp2_with (at_builtin; refine wpList_appC rfl _ _ rfl (w3.alloc (.cells #[.slice P0 (cc.ln k) pc, .slice Q0 (cc.vl k) qc0] 41)) (fun _ => True) (w.heap.size + 3) (.slice XA (cntTo pb k) xc) (cntTo pb k) (cc.pick (pickI pb D.N)) rfl w3.heap.size rfl P0 Q0 pc qc0 HQ.out.1 HQ.out.2.1 HQ.out.2.2.1 ⟨trivial, trivial⟩ HQ.out.2.2.2 HOw4.out hn6 hz4 ?_; intro v4 w4 hown hgr hat)
              all_goals
                go_wp2
                go_roundw
                case rel => exact ⟨k + 1, by omega, by go_num, by rw [HE.out]; exact hown, HB4.out.grown hgr hz4 (fun g hg => (HOw3.out.block hg).1)⟩
                case measure => simp [intOf]; omega
          · obtain rfl : k = D.N := by omega
            have hno : OwnC (fun _ => True) wr (w.heap.size + 3) (.slice XA (cntTo pb D.N) xc) Y.N Y.c := by
              rw [HYc.out.1, HYc.out.2]
              exact HOw.out
            obtain ⟨XA', xc', he9, hce⟩ := hno.at HYo.out
            rw [← HYc.out.1] at he9 ⊢
            injection he9 with he9 _ he8
            subst he9 he8
            have HCE := Lib.hid hce
            obtain ⟨⟨y0, y1, y2⟩, z0, z1, z2⟩ := three_at (HR1.out wr HBr.out)
            clear hno hce
            go_wp2_with fail
            refine (HCo.out wr XA xc HWr.out HCE.out).mono ?_
            rintro e w3 ⟨q, rfl, hq, hb3⟩
            have HB3 : Hid (Below w.heap.size w w3) := st HWr.out hb3
            have hres := (HR1.out w3 (HBr.out.trans (hb3.mono hzr)))
            have HQ := Lib.hid hq
            clear y0 y1 y2 z0 z1 z2 m0 m1 m2 m3 m4 hq
            obtain ⟨⟨y0, y1, y2⟩, z0, z1, z2⟩ := three_at hres
            go_wp2
            refine bodyPost_ret (v := .tuple #[ArrV q.A D.n q.cap q.B D.m q.bcap q.C Y.N q.ccap, .int .i64 0]) (res_cell_tmp Tryz.results41 _ _ (w.heap.size + 2) 26 _ (0, 0) _ rfl (three_set hres _ _ _) Tryz.underlying26 rfl (by rw [info_arr]; rfl)) rfl ?_
            have gr : w3.grownBy (((w3.setCell ⟨w.heap.size + 2, 0, none⟩ (.slice q.A D.n q.cap)).setCell ⟨w.heap.size + 2, 1, none⟩ (.slice q.B D.m q.bcap)).setCell ⟨w.heap.size + 2, 2, none⟩ (.slice q.C Y.N q.ccap)) (some (w.heap.size + 2)) := gr2 (gr2 (grown_set _ _ _ _) (grown_set _ _ _ _)) (grown_set _ _ _ _)
            exact ⟨HY2.out q _ (HQ.out.grown gr (by omega)).at, ((HB3.out.setCell (p := ⟨w.heap.size + 2, 0, none⟩) (by show w.heap.size ≤ w.heap.size + 2; omega) _).setCell (p := ⟨w.heap.size + 2, 1, none⟩) (by show w.heap.size ≤ w.heap.size + 2; omega) _).setCell (p := ⟨w.heap.size + 2, 2, none⟩) (by show w.heap.size ≤ w.heap.size + 2; omega) _⟩
      · have g3 : ((nb : Int) != (D.n : Int)) = true := by rw [bne_iff_ne]; omega
        have HX13 := Lib.hid (HN13.out (by rw [beq_eq_false_iff_ne]; exact hnn))
        clear HN13 HY
        go_wp2
        refine bodyPost_ret (v := .tuple #[ArrV none 0 0 none 0 0 none 0 0, .int .i64 13]) (res_cell_tmp Tryz.results41 _ _ (w.heap.size + 2) 26 _ (0, 0) _ rfl (three_set (HR1.out w2 HB2.out) _ _ _) Tryz.underlying26 rfl (by rw [info_arr]; rfl)) rfl ?_
        exact ⟨HX13.out _, ((HW2.out.setCell (p := ⟨w.heap.size + 2, 0, none⟩) (by show w.heap.size ≤ w.heap.size + 2; omega) _).setCell (p := ⟨w.heap.size + 2, 1, none⟩) (by show w.heap.size ≤ w.heap.size + 2; omega) _).setCell (p := ⟨w.heap.size + 2, 2, none⟩) (by show w.heap.size ≤ w.heap.size + 2; omega) _⟩
  · have g2 : (ck != 0) = true := by rw [bne_iff_ne]; exact hk0
    obtain ⟨⟨y0, y1, y2⟩, z0, z1, z2⟩ := three_at (HR1.out w1 HB1.out)
    go_wp2
    refine bodyPost_ret (v := .tuple #[ArrV none 0 0 none 0 0 none 0 0, .int .i64 2]) (res_cell_tmp Tryz.results41 _ _ (w.heap.size + 2) 26 _ (0, 0) _ rfl (three_set (HR1.out w1 HB1.out) _ _ _) Tryz.underlying26 rfl (by rw [info_arr]; rfl)) rfl ?_
    exact ⟨HN2.out hk0 _, ((HW1.out.setCell (p := ⟨w.heap.size + 2, 0, none⟩) (by show w.heap.size ≤ w.heap.size + 2; omega) _).setCell (p := ⟨w.heap.size + 2, 1, none⟩) (by show w.heap.size ≤ w.heap.size + 2; omega) _).setCell (p := ⟨w.heap.size + 2, 2, none⟩) (by show w.heap.size ≤ w.heap.size + 2; omega) _⟩
end Go.Proofs.YtoippldgoehpcaaGreatDoor
