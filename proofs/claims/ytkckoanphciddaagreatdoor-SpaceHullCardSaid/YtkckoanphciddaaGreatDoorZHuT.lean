/- The cells of an array in a box: the program. -/
import Derived.Test.YtkckoanphciddaaGreatDoorZHuL
import Derived.Test.YtkckoanphciddaaGreatDoorZRfQ
import Derived.Test.YtkckoanphciddaaGreatDoorZRfP
import Derived.Test.YtkckoanphciddaaGreatDoorZSpI
import Derived.Test.YtkckoanphciddaaGreatDoorZAppC

/- The cells of an array in a box: the program. -/
section
namespace Go.Proofs.YtkckoanphciddaaGreatDoor
open Go Go.RowKit Go.Deep

/-- What Cut returns. -/
def CutR (D : ArD) (nb mb : Nat) (l h : Nat → Int) (e : Ending) (w' : World) : Prop :=
  ∃ (q : ArP) (E : ArD), e = .returned (.tuple #[q.val E.n E.m E.N, .int .i64 (cutE D nb mb)]) ∧ ArAt w' q E ∧ E = cutD D nb mb l h
/-- The array that Cut returns where there is no error. -/
def cutY (D : ArD) (nb mb : Nat) (l h : Nat → Int) : ArD := ⟨D.n, D.nm, D.lo, D.hi, D.m, D.an, D.ty, cntTo (inBox D nb mb l h) D.N, D.c.pick (pickI (inBox D nb mb l h) D.N)⟩

set_option maxRecDepth 100000 in
set_option maxHeartbeats 8000000 in
theorem s_Cut (w : World) (p : ArP) (D : ArD) (L H : Option Addr) (nb c mb d : Nat) (l h : Nat → Int) (ha : ArAt w p D) (ho : ArOk D) (hl : IntsAt w L nb l) (hh : IntsAt w H mb h) (hnb : nb ≤ 1000) :
    Calls Tryz.prog 41 #[p.val D.n D.m D.N, BoxW L H nb c mb d] w fun e w' => CutR D nb mb l h e w' ∧ Below w.heap.size w w' := by
  have HCk : Hid (∀ W, Below w.heap.size w W → Calls Tryz.prog 16 #[p.val D.n D.m D.N] W fun e w' => e = .returned (.int .i64 D.check) ∧ Below W.heap.size W w') := fun W hW => as_Check W p D (ha.below hW) ho
  have HFo : Hid (∀ W, Calls Tryz.prog 94 #[BoxW L H nb c mb d] W fun e w' => e = .returned (.bool (formB nb mb)) ∧ Below W.heap.size W w') := fun W => s_formed W L H nb c mb d
  have HHa : Hid (∀ W P k pc, Below w.heap.size w W → k < D.N → IntsAt W P (D.c.ln k) (D.c.x k) → Calls Tryz.prog 93 #[BoxW L H nb c mb d, .slice P (D.c.ln k) pc] W fun e w' => e = .returned (.bool (inBox D nb mb l h k)) ∧ Below W.heap.size W w') := fun W P k pc hW hk hx => s_Has W L H P nb c mb d _ pc l h _ (hl.below hW) (hh.below hW) hx (by have := (ho.cS k hk).1; omega) hnb
  have HCo : Hid (∀ W C cc, Below w.heap.size w W → CeAt W C (cutY D nb mb l h).N (cutY D nb mb l h).c → Calls Tryz.prog 61 #[.slice p.A D.n p.cap, .slice p.B D.m p.bcap, .slice C (cutY D nb mb l h).N cc] W fun e w' => ∃ q : ArP, e = .returned (q.val D.n D.m (cutY D nb mb l h).N) ∧ ArUp w' W.heap.size q (cutY D nb mb l h) ∧ Below W.heap.size W w') := fun W C cc hW hC =>
    s_copied W p.A p.B C D.n p.cap D.m p.bcap _ cc _ _ _ _ _ _ (ha.dims.below hW) (ha.attrs.below hW) hC ho.n1 ho.m1 (by have := cntTo_le (inBox D nb mb l h) D.N; have := ho.N1; show cntTo (inBox D nb mb l h) D.N ≤ _; omega) (pick_ok ho.cS)
  have HY : Hid (D.check = 0 → formB nb mb = true → nb = D.n → ∀ (q : ArP) W, ArAt W q (cutY D nb mb l h) → CutR D nb mb l h (.returned (.tuple #[q.val D.n D.m (cutY D nb mb l h).N, .int .i64 0])) W) := fun h1 h2 h3 q W hq => by
    have e : cutE D nb mb = 0 := by
      subst h3
      unfold cutE
      rw [if_neg (by rw [h1]; decide), h2]
      simp
    refine ⟨q, cutY D nb mb l h, by rw [e]; rfl, hq, ?_⟩
    unfold cutD
    rw [if_pos e]
    rfl
  have HN2 : Hid (D.check ≠ 0 → ∀ W, CutR D nb mb l h (.returned (.tuple #[ArrV none 0 0 none 0 0 none 0 0, .int .i64 2])) W) := fun h1 W => by
    have e : cutE D nb mb = 2 := by simp [cutE, h1]
    refine ⟨⟨none, 0, none, 0, none, 0⟩, noAr, by rw [e]; rfl, noAr_at _, ?_⟩
    unfold cutD
    rw [if_neg (by rw [e]; decide)]
  have HN13 : Hid (D.check = 0 → (formB nb mb && nb == D.n) = false → ∀ W, CutR D nb mb l h (.returned (.tuple #[ArrV none 0 0 none 0 0 none 0 0, .int .i64 13])) W) := fun h1 h2 W => by
    have e : cutE D nb mb = 13 := by simp [cutE, h1, h2]
    refine ⟨⟨none, 0, none, 0, none, 0⟩, noAr, by rw [e]; rfl, noAr_at _, ?_⟩
    unfold cutD
    rw [if_neg (by rw [e]; decide)]
  have HCe := Lib.hid ha.cells
  have HPk : Hid (∀ k, k < D.N → inBox D nb mb l h k = true → pickI (inBox D nb mb l h) D.N (cntTo (inBox D nb mb l h) k) = k) := fun k hk hp => pickI_at hk hp
  have HCn : Hid ((∀ k, inBox D nb mb l h k = true → cntTo (inBox D nb mb l h) (k + 1) = cntTo (inBox D nb mb l h) k + 1) ∧ (∀ k, inBox D nb mb l h k = false → cntTo (inBox D nb mb l h) (k + 1) = cntTo (inBox D nb mb l h) k) ∧ ∀ k, cntTo (inBox D nb mb l h) k ≤ k) := ⟨fun k => cntTo_yes, fun k => cntTo_no, cntTo_le _⟩
  have HYc : Hid ((cutY D nb mb l h).N = cntTo (inBox D nb mb l h) D.N ∧ (cutY D nb mb l h).c = D.c.pick (pickI (inBox D nb mb l h) D.N)) := ⟨rfl, rfl⟩
  have HYo : Hid (CeOk (cutY D nb mb l h).N (cutY D nb mb l h).c) := pick_ok ho.cS
  have hN := ho.N1
  clear ha ho hl hh
  generalize CutR D nb mb l h = R at *
  generalize cutY D nb mb l h = Y at *
  generalize inBox D nb mb l h = pb at *
  generalize D.check = ck at *
  generalize D.c = cc at *
  have HT1 := Lib.hid (arr_box w (.slice p.A D.n p.cap) (.slice p.B D.m p.bcap) (.slice p.C D.N p.ccap) 29)
  have HT2 := Lib.hid (cel_box (w.alloc (p.obj D.n D.m D.N)) (.slice L nb c) (.slice H mb d) 66)
  have HR0 := Lib.hid (heap_alloc_new ((w.alloc (p.obj D.n D.m D.N)).alloc (.cells #[.slice L nb c, .slice H mb d] 66)) (.cells #[.slice none 0 0, .slice none 0 0, .slice none 0 0] 29))
  have hz1 : (w.alloc (p.obj D.n D.m D.N)).heap.size = w.heap.size + 1 := by simp
  have hz2 : ((w.alloc (p.obj D.n D.m D.N)).alloc (.cells #[.slice L nb c, .slice H mb d] 66)).heap.size = w.heap.size + 2 := by simp
  have hz3 : (((w.alloc (p.obj D.n D.m D.N)).alloc (.cells #[.slice L nb c, .slice H mb d] 66)).alloc (.cells #[.slice none 0 0, .slice none 0 0, .slice none 0 0] 29)).heap.size = w.heap.size + 3 := by simp
  have HB0 : Hid (Below w.heap.size w (((w.alloc (p.obj D.n D.m D.N)).alloc (.cells #[.slice L nb c, .slice H mb d] 66)).alloc (.cells #[.slice none 0 0, .slice none 0 0, .slice none 0 0] 29))) := (((Below.refl _ _).alloc (Nat.le_refl _) _).alloc (by simp) _).alloc (by simp; omega) _
  have HT : Hid (∀ W, Below (w.heap.size + 3) (((w.alloc (p.obj D.n D.m D.N)).alloc (.cells #[.slice L nb c, .slice H mb d] 66)).alloc (.cells #[.slice none 0 0, .slice none 0 0, .slice none 0 0] 29)) W → (W.cell? ⟨w.heap.size, 0, none⟩ = some (.slice p.A D.n p.cap) ∧ W.cell? ⟨w.heap.size, 1, none⟩ = some (.slice p.B D.m p.bcap) ∧ W.cell? ⟨w.heap.size, 2, none⟩ = some (.slice p.C D.N p.ccap)) ∧ (W.cell? ⟨w.heap.size + 1, 0, none⟩ = some (.slice L nb c) ∧ W.cell? ⟨w.heap.size + 1, 1, none⟩ = some (.slice H mb d))) := fun W hW => by
    have h3 := hW
    rw [← hz3] at h3
    have h2 := HT2.out W (st (bel_nw _ _) h3)
    rw [hz1] at h2
    exact ⟨HT1.out W (st (bel_nw _ _) (st (bel_nw _ _) h3)), h2⟩
  rw [hz2] at HR0
  clear HT1 HT2 hz1 hz2
  obtain ⟨⟨m0, m1, m2⟩, m3, m4⟩ := HT.out _ (Below.refl _ _)
  go_enter Tryz.func41, Tryz.ntmps41
  go_wp2_with fail
  clear m0 m1 m2 m3 m4
  generalize hW0 : ((w.alloc (.cells #[.slice p.A D.n p.cap, .slice p.B D.m p.bcap, .slice p.C D.N p.ccap] 29)).alloc (.cells #[.slice L nb c, .slice H mb d] 66)).alloc (.cells #[.slice none 0 0, .slice none 0 0, .slice none 0 0] 29) = W0 at *
  clear hW0
  refine (HCk.out _ HB0.out).mono ?_
  rintro e w1 ⟨rfl, hb1⟩
  rw [hz3] at hb1
  have HB1 : Hid (Below (w.heap.size + 3) W0 w1) := hb1
  have HW1 : Hid (Below w.heap.size w w1) := HB0.out.trans (hb1.mono (by omega))
  clear hb1
  have hz1 : w.heap.size + 3 ≤ w1.heap.size := by rw [← hz3]; exact HB1.out.size
  have HR1 : Hid (∀ W, Below (w.heap.size + 3) W0 W → W.heap[w.heap.size + 2]? = some (.cells #[.slice none 0 0, .slice none 0 0, .slice none 0 0] 29 (0, 0))) := fun W hW => (hW.block _ (by omega)).trans HR0.out
  by_cases hk0 : ck = 0
  · subst hk0
    obtain ⟨⟨m0, m1, m2⟩, m3, m4⟩ := HT.out w1 HB1.out
    go_wp2_with fail
    refine (HFo.out w1).mono ?_
    rintro e w2 ⟨rfl, hb2⟩
    have HB2 : Hid (Below (w.heap.size + 3) W0 w2) := HB1.out.trans (hb2.mono hz1)
    have HW2 : Hid (Below w.heap.size w w2) := st HW1.out hb2
    have hz2 : w.heap.size + 3 ≤ w2.heap.size := by rw [← hz3]; exact HB2.out.size
    clear hb2 m0 m1 m2 m3 m4 HB1 HW1 hz1 HFo HN2
    have HN13' := Lib.hid (HN13.out trivial)
    have HY' := Lib.hid (HY.out trivial)
    clear HN13 HY
    obtain ⟨⟨m0, m1, m2⟩, m3, m4⟩ := HT.out w2 HB2.out
    obtain ⟨⟨y0, y1, y2⟩, z0, z1, z2⟩ := three_at (HR1.out w2 HB2.out)
    obtain ⟨fb, hfb⟩ : ∃ fb, formB nb mb = fb := ⟨_, rfl⟩
    rw [hfb] at HN13' HY' ⊢
    clear hfb
    cases fb with
    | false =>
      have HX13 := Lib.hid (HN13'.out (by simp))
      clear HN13' HY'
      go_wp2
      refine bodyPost_ret (v := .tuple #[ArrV none 0 0 none 0 0 none 0 0, .int .i64 13]) (res_cell_tmp Tryz.results41 _ _ (w.heap.size + 2) 29 _ (0, 0) _ rfl (three_set (HR1.out w2 HB2.out) _ _ _) Tryz.underlying29 rfl (by rw [info_arr]; rfl)) rfl ?_
      exact ⟨HX13.out _, ((HW2.out.setCell (p := ⟨w.heap.size + 2, 0, none⟩) (by show w.heap.size ≤ w.heap.size + 2; omega) _).setCell (p := ⟨w.heap.size + 2, 1, none⟩) (by show w.heap.size ≤ w.heap.size + 2; omega) _).setCell (p := ⟨w.heap.size + 2, 2, none⟩) (by show w.heap.size ≤ w.heap.size + 2; omega) _⟩
    | true =>
      have HN13 := Lib.hid (fun h : (nb == D.n) = false => HN13'.out (by rw [Bool.true_and]; exact h))
      have HY := Lib.hid (HY'.out rfl)
      clear HN13' HY'
      by_cases hnn : nb = D.n
      · subst hnn
        have HY2 := Lib.hid (HY.out rfl)
        clear HY HN13
        have g3 : ((D.n : Int) != (D.n : Int)) = false := by simp
        go_wp2_with fail
        clear m0 m1 m2 m3 m4 y0 y1 y2 z0 z1 z2
        go_loopw [6, 8, 29] (fun x _ i wr => ∃ k : Nat, k ≤ D.N ∧ i = .int .i64 k ∧ Hid (OwnC (fun _ => True) wr (w.heap.size + 3) x (cntTo pb k) (cc.pick (pickI pb D.N))) ∧ Hid (Below (w.heap.size + 3) W0 wr)) (fun _ _ i _ => D.N - (intOf i).toNat)
        case atStart => exact ⟨0, Nat.zero_le _, rfl, OwnC.nil _ _ _ _, HB2.out⟩
        case round =>
          rename_i x _ i
          obtain ⟨k, hk, rfl, HOw, HBr⟩ := hrel
          obtain ⟨XA, xc, rfl, -⟩ := HOw.out.row
          have HWr : Hid (Below w.heap.size w wr) := HB0.out.trans (HBr.out.mono (by omega))
          obtain ⟨⟨m0, m1, m2⟩, m3, m4⟩ := HT.out wr HBr.out
          have hzr : w.heap.size + 3 ≤ wr.heap.size := by rw [← hz3]; exact HBr.out.size
          by_cases hlt : k < D.N
          · obtain ⟨bc, oc, hCe, hbc, hcc⟩ := HCe.out (by omega)
            obtain ⟨P0, pc, Q0, qc0, x0', x1', x2, x3, x4⟩ := hcc k hlt
            have x0 := (HWr.out.cell (p := ⟨bc, oc + k * 2, none⟩) hbc).trans x0'
            have x1 := (HWr.out.cell (p := ⟨bc, oc + k * 2 + 1, none⟩) hbc).trans x1'
            have hPlt : 0 < cc.ln k → ∀ a, P0 = some a → a.block < w.heap.size := fun hn a ha => x2.row.lt hn ha
            have hQlt : 0 < cc.vl k → ∀ a, Q0 = some a → a.block < w.heap.size := fun hn a ha => x3.row.lt hn ha
            clear x0' x1'
            clear hcc
            rw [hCe] at m2 ⊢
            have HX2 := Lib.hid x2
            have HX3 := Lib.hid x3
            have HPQ := Lib.hid (And.intro hPlt hQlt)
            have hk0 : (0 : Int) ≤ (k : Int) := by omega
            have hkN : (k : Int) < (D.N : Int) := by omega
            have Bb : Below wr.heap.size wr (wr.alloc (.cells #[.slice P0 (cc.ln k) pc, .slice Q0 (cc.vl k) qc0] 38)) := bel_nw _ _
            have KC := Lib.hid (cel_box wr (.slice P0 (cc.ln k) pc) (.slice Q0 (cc.vl k) qc0) 38)
            have HBx : Hid (Below (w.heap.size + 3) W0 (wr.alloc (.cells #[.slice P0 (cc.ln k) pc, .slice Q0 (cc.vl k) qc0] 38))) := HBr.out.trans (Bb.mono hzr)
            have HWx : Hid (Below w.heap.size w (wr.alloc (.cells #[.slice P0 (cc.ln k) pc, .slice Q0 (cc.vl k) qc0] 38))) := st HWr.out Bb
            obtain ⟨n0, n1⟩ := KC.out _ (Below.refl _ _)
            obtain ⟨⟨-, -, -⟩, m3', m4'⟩ := HT.out _ HBx.out
            clear x2 x3 hPlt hQlt
            go_wp2_with fail
            clear m0 m1 m2 m3 m4 m3' m4' n0 n1 x0 x1
            generalize hwx : wr.alloc (.cells #[.slice P0 (cc.ln k) pc, .slice Q0 (cc.vl k) qc0] 38) = wx at *
            clear hwx
            refine (HHa.out _ P0 k pc HWx.out hlt (HX2.out.below HWx.out)).mono ?_
            rintro e w3 ⟨rfl, hb3⟩
            obtain ⟨n0, n1⟩ := KC.out w3 hb3
            have hzx : w.heap.size + 3 ≤ wx.heap.size := Nat.le_trans hzr Bb.size
            have HB3 : Hid (Below (w.heap.size + 3) W0 w3) := HBx.out.trans (hb3.mono hzx)
            have HW3 : Hid (Below w.heap.size w w3) := st HWx.out hb3
            have HOw3 := Lib.hid ((HOw.out.below Bb).below hb3)
            have hz3' : w.heap.size + 3 ≤ w3.heap.size := Nat.le_trans hzx hb3.size
            have hcl := HCn.out.2.2 k
            clear hb3 Bb HBx HWx HOw HBr HWr
            cases hp : pb k
            · have HE := Lib.hid (HCn.out.2.1 k hp)
              clear hp
              go_wp2
              go_roundw
              case rel => exact ⟨k + 1, by omega, by go_num, by rw [HE.out]; exact HOw3.out, HB3.out⟩
              case measure => simp [intOf]; omega
            · have HE := Lib.hid (HCn.out.1 k hp)
              have HPI := Lib.hid (HPk.out k hlt hp)
              clear hp
              have hq : ((w3.alloc (.cells #[.slice P0 (cc.ln k) pc, .slice Q0 (cc.vl k) qc0] 38)).heap[w3.heap.size]? = some (.cells #[.slice P0 ((cc.pick (pickI pb D.N)).ln (cntTo pb k)) pc, .slice Q0 ((cc.pick (pickI pb D.N)).vl (cntTo pb k)) qc0] 38 (0, 0))) ∧
                  IntsAt (w3.alloc (.cells #[.slice P0 (cc.ln k) pc, .slice Q0 (cc.vl k) qc0] 38)) P0 ((cc.pick (pickI pb D.N)).ln (cntTo pb k)) ((cc.pick (pickI pb D.N)).x (cntTo pb k)) ∧
                  ValsAt (w3.alloc (.cells #[.slice P0 (cc.ln k) pc, .slice Q0 (cc.vl k) qc0] 38)) Q0 ((cc.pick (pickI pb D.N)).vl (cntTo pb k)) ((cc.pick (pickI pb D.N)).vk (cntTo pb k)) ((cc.pick (pickI pb D.N)).vn (cntTo pb k)) ((cc.pick (pickI pb D.N)).vd (cntTo pb k)) ((cc.pick (pickI pb D.N)).vs (cntTo pb k)) ∧
                  ((0 < (cc.pick (pickI pb D.N)).ln (cntTo pb k) → ∀ a, P0 = some a → (Value.slice XA (cntTo pb k) xc).ownBlock ≠ some a.block) ∧ (0 < (cc.pick (pickI pb D.N)).vl (cntTo pb k) → ∀ a, Q0 = some a → (Value.slice XA (cntTo pb k) xc).ownBlock ≠ some a.block)) := by
                simp only [CeD.pick, HPI.out]
                exact ⟨heap_alloc_new _ _, (HX2.out.below HW3.out).below (bel_nw _ _), (HX3.out.below HW3.out).below (bel_nw _ _), fun hn a ha e => by have := (HOw3.out.block e).1; have := HPQ.out.1 hn a ha; omega, fun hn a ha e => by have := (HOw3.out.block e).1; have := HPQ.out.2 hn a ha; omega⟩
              have HQ := Lib.hid hq
              have HOw4 := Lib.hid (HOw3.out.below (bel_nw w3 (.cells #[.slice P0 (cc.ln k) pc, .slice Q0 (cc.vl k) qc0] 38)))
              have HB4 := Lib.hid (HB3.out.alloc hz3' (.cells #[.slice P0 (cc.ln k) pc, .slice Q0 (cc.vl k) qc0] 38))
              have hn6 : cntTo pb k ≤ 1000000 := by omega
              have hz4 : w.heap.size + 3 ≤ (w3.alloc (.cells #[.slice P0 (cc.ln k) pc, .slice Q0 (cc.vl k) qc0] 38)).heap.size := by simp; omega
              clear hq
              go_wp2_with (at_builtin; refine wpList_appC rfl _ _ rfl (w3.alloc (.cells #[.slice P0 (cc.ln k) pc, .slice Q0 (cc.vl k) qc0] 38)) (fun _ => True) (w.heap.size + 3) (.slice XA (cntTo pb k) xc) (cntTo pb k) (cc.pick (pickI pb D.N)) rfl w3.heap.size rfl P0 Q0 pc qc0 HQ.out.1 HQ.out.2.1 HQ.out.2.2.1 ⟨trivial, trivial⟩ HQ.out.2.2.2 HOw4.out hn6 hz4 ?_; intro v4 w4 hown hgr hat)
              all_goals
                go_wp2
                go_roundw
                case rel => exact ⟨k + 1, by omega, by go_num, by rw [HE.out]; exact hown, HB4.out.grown hgr hz4 (fun g hg => (HOw3.out.block hg).1)⟩
                case measure => simp [intOf]; omega
          · obtain rfl : k = D.N := by omega
            have hno : OwnC (fun _ => True) wr (w.heap.size + 3) (.slice XA (cntTo pb D.N) xc) Y.N Y.c := by
              rw [HYc.out.1, HYc.out.2]
              exact HOw.out
            obtain ⟨XA', xc', he9, hce⟩ := hno.at HYo.out
            rw [← HYc.out.1] at he9 ⊢
            injection he9 with he9 _ he8
            subst he9 he8
            have HCE := Lib.hid hce
            obtain ⟨⟨y0, y1, y2⟩, z0, z1, z2⟩ := three_at (HR1.out wr HBr.out)
            clear hno hce
            go_wp2_with fail
            refine (HCo.out wr XA xc HWr.out HCE.out).mono ?_
            rintro e w3 ⟨q, rfl, hq, hb3⟩
            have HB3 : Hid (Below w.heap.size w w3) := st HWr.out hb3
            have hres := (HR1.out w3 (HBr.out.trans (hb3.mono hzr)))
            have HQ := Lib.hid hq
            clear y0 y1 y2 z0 z1 z2 m0 m1 m2 m3 m4 hq
            obtain ⟨⟨y0, y1, y2⟩, z0, z1, z2⟩ := three_at hres
            go_wp2
            refine bodyPost_ret (v := .tuple #[ArrV q.A D.n q.cap q.B D.m q.bcap q.C Y.N q.ccap, .int .i64 0]) (res_cell_tmp Tryz.results41 _ _ (w.heap.size + 2) 29 _ (0, 0) _ rfl (three_set hres _ _ _) Tryz.underlying29 rfl (by rw [info_arr]; rfl)) rfl ?_
            have gr : w3.grownBy (((w3.setCell ⟨w.heap.size + 2, 0, none⟩ (.slice q.A D.n q.cap)).setCell ⟨w.heap.size + 2, 1, none⟩ (.slice q.B D.m q.bcap)).setCell ⟨w.heap.size + 2, 2, none⟩ (.slice q.C Y.N q.ccap)) (some (w.heap.size + 2)) := gr2 (gr2 (grown_set _ _ _ _) (grown_set _ _ _ _)) (grown_set _ _ _ _)
            exact ⟨HY2.out q _ (HQ.out.grown gr (by omega)).at, ((HB3.out.setCell (p := ⟨w.heap.size + 2, 0, none⟩) (by show w.heap.size ≤ w.heap.size + 2; omega) _).setCell (p := ⟨w.heap.size + 2, 1, none⟩) (by show w.heap.size ≤ w.heap.size + 2; omega) _).setCell (p := ⟨w.heap.size + 2, 2, none⟩) (by show w.heap.size ≤ w.heap.size + 2; omega) _⟩
      · have g3 : ((nb : Int) != (D.n : Int)) = true := by rw [bne_iff_ne]; omega
        have HX13 := Lib.hid (HN13.out (by rw [beq_eq_false_iff_ne]; exact hnn))
        clear HN13 HY
        go_wp2
        refine bodyPost_ret (v := .tuple #[ArrV none 0 0 none 0 0 none 0 0, .int .i64 13]) (res_cell_tmp Tryz.results41 _ _ (w.heap.size + 2) 29 _ (0, 0) _ rfl (three_set (HR1.out w2 HB2.out) _ _ _) Tryz.underlying29 rfl (by rw [info_arr]; rfl)) rfl ?_
        exact ⟨HX13.out _, ((HW2.out.setCell (p := ⟨w.heap.size + 2, 0, none⟩) (by show w.heap.size ≤ w.heap.size + 2; omega) _).setCell (p := ⟨w.heap.size + 2, 1, none⟩) (by show w.heap.size ≤ w.heap.size + 2; omega) _).setCell (p := ⟨w.heap.size + 2, 2, none⟩) (by show w.heap.size ≤ w.heap.size + 2; omega) _⟩
  · have g2 : (ck != 0) = true := by rw [bne_iff_ne]; exact hk0
    obtain ⟨⟨y0, y1, y2⟩, z0, z1, z2⟩ := three_at (HR1.out w1 HB1.out)
    go_wp2
    refine bodyPost_ret (v := .tuple #[ArrV none 0 0 none 0 0 none 0 0, .int .i64 2]) (res_cell_tmp Tryz.results41 _ _ (w.heap.size + 2) 29 _ (0, 0) _ rfl (three_set (HR1.out w1 HB1.out) _ _ _) Tryz.underlying29 rfl (by rw [info_arr]; rfl)) rfl ?_
    exact ⟨HN2.out hk0 _, ((HW1.out.setCell (p := ⟨w.heap.size + 2, 0, none⟩) (by show w.heap.size ≤ w.heap.size + 2; omega) _).setCell (p := ⟨w.heap.size + 2, 1, none⟩) (by show w.heap.size ≤ w.heap.size + 2; omega) _).setCell (p := ⟨w.heap.size + 2, 2, none⟩) (by show w.heap.size ≤ w.heap.size + 2; omega) _⟩
end Go.Proofs.YtkckoanphciddaaGreatDoor
end

/- What the law of hulls asks, of the data alone. -/
section
namespace Go.Proofs.YtkckoanphciddaaGreatDoor
open Go Go.RowKit Go.Deep

theorem inTo_at {lo hi xs : Nat → Int} {n : Nat} (h : inTo lo hi xs n = true) {j : Nat} (hj : j < n) : lo j ≤ xs j ∧ xs j ≤ lastZ (hi j) := by
  induction n with
  | zero => omega
  | succ n ih =>
    rw [inTo, Bool.and_eq_true, Bool.and_eq_true] at h
    by_cases e : j = n
    · subst e; exact ⟨of_decide_eq_true h.2.1, of_decide_eq_true h.2.2⟩
    · exact ih h.1 (by omega)
theorem cell_in {D : ArD} (h : D.check = 0) {k : Nat} (hk : k < D.N) {j : Nat} (hj : j < D.n) : D.lo j ≤ D.c.x k j ∧ D.c.x k j ≤ 1073741824 := by
  have h1 := check_cell h hk
  unfold cellE at h1
  split at h1
  · exact absurd h1 (by decide)
  · split at h1
    · rename_i h2; exact absurd h1 h2
    · rename_i h2 h3
      have h4 : placeEr D.lo D.hi (D.c.x k) D.n (D.c.ln k) = 0 := Decidable.not_not.1 h3
      unfold placeEr at h4
      rw [if_neg (by rw [check_ln h hk]; simp)] at h4
      cases h5 : inTo D.lo D.hi (D.c.x k) D.n
      · rw [h5] at h4; exact absurd h4 (by decide)
      · have h6 := inTo_at h5 hj
        refine ⟨h6.1, ?_⟩
        unfold lastZ at h6
        have := h6.2
        split at this <;> omega
theorem hasTo_iff {l h v : Nat → Int} {n : Nat} : hasTo l h v n = true ↔ ∀ j, j < n → l j ≤ v j ∧ belB (v j) (h j) = true := by
  induction n with
  | zero => exact ⟨fun _ j hj => absurd hj (Nat.not_lt_zero j), fun _ => rfl⟩
  | succ n ih =>
    rw [hasTo, Bool.and_eq_true, Bool.and_eq_true, ih]
    constructor
    · rintro ⟨h1, h2, h3⟩ j hj
      by_cases e : j = n
      · subst e; exact ⟨of_decide_eq_true h2, h3⟩
      · exact h1 j (by omega)
    · intro h1
      exact ⟨fun j hj => h1 j (by omega), decide_eq_true (h1 n (Nat.lt_succ_self n)).1, (h1 n (Nat.lt_succ_self n)).2⟩
theorem form_n {n : Nat} (h : 1 ≤ n ∧ n ≤ 4) : formB n n = true := by simp [formB, h.1, h.2]
theorem inBox_eq {D : ArD} (h : D.check = 0) {l h' : Nat → Int} {k : Nat} (hk : k < D.N) : inBox D D.n D.n l h' k = hasTo l h' (D.c.x k) D.n := by
  unfold inBox hasB
  rw [form_n (check_n h), check_ln h hk, beq_self_eq_true, Bool.true_and, Bool.true_and]
theorem cutE_zero {D : ArD} (h : D.check = 0) : cutE D D.n D.n = 0 := by
  unfold cutE
  rw [if_neg (by rw [h]; decide), form_n (check_n h)]
  simp
theorem cutD_eq {D : ArD} {nb mb : Nat} {l h : Nat → Int} (he : cutE D nb mb = 0) : cutD D nb mb l h = cutY D nb mb l h := by
  unfold cutD
  rw [if_pos he]
  rfl
theorem cutE_ok {D : ArD} {nb mb : Nat} (h : D.check = 0) : (cutE D nb mb = 0 ∧ nb = D.n ∧ mb = D.n) ∨ cutE D nb mb = 13 := by
  unfold cutE
  rw [if_neg (by rw [h]; decide)]
  by_cases e : (formB nb mb && nb == D.n) = true
  · rw [if_pos e]
    rw [Bool.and_eq_true] at e
    have h1 := formB_ok e.1
    have h2 : nb = D.n := by simpa using e.2
    exact .inl ⟨rfl, h2, by omega⟩
  · rw [if_neg e]; exact .inr rfl
theorem pickY_self {D : ArD} (h : D.check = 0) {p : Nat → Bool} (hp : ∀ k, k < D.N → p k = true) : sameAr D ⟨D.n, D.nm, D.lo, D.hi, D.m, D.an, D.ty, cntTo p D.N, D.c.pick (pickI p D.N)⟩ = true := by
  unfold sameAr
  rw [check_pick h p, h, cntTo_all hp]
  have h1 : eqAr ⟨D.n, D.nm, D.lo, D.hi, D.m, D.an, D.ty, D.N, D.c.pick id⟩ ⟨D.n, D.nm, D.lo, D.hi, D.m, D.an, D.ty, D.N, D.c.pick (pickI p D.N)⟩ = true := eq_picks fun k hk => (pickI_all hp hk).symm
  have h2 : eqAr D ⟨D.n, D.nm, D.lo, D.hi, D.m, D.an, D.ty, D.N, D.c.pick (pickI p D.N)⟩ = true := h1
  rw [h2]
  rfl
/-- Cut by the hull: the array. -/
theorem hull_same {D : ArD} (h : D.check = 0) : sameAr D (cutD D D.n D.n (hLo D.c.x D.N) (hHi D.c.x D.N)) = true := by
  rw [cutD_eq (cutE_zero h)]
  refine pickY_self h fun k hk => ?_
  rw [inBox_eq h hk]
  refine hasTo_iff.2 fun j hj => ⟨hLo_le hk j, ?_⟩
  unfold belB
  rw [decide_eq_true (hHi_ge hk j), Bool.true_or]
/-- Cut by one cell's coordinates: this cell. -/
theorem lone_cell {D : ArD} (h : D.check = 0) {i : Nat} (hi : i < D.N) : cntTo (inBox D D.n D.n (D.c.x i) (D.c.x i)) D.N = 1 ∧ pickI (inBox D D.n D.n (D.c.x i) (D.c.x i)) D.N 0 = i := by
  refine cntTo_one hi ?_ fun k hk hp => ?_
  · rw [inBox_eq h hi]
    refine hasTo_iff.2 fun j hj => ⟨Int.le_refl _, ?_⟩
    unfold belB
    rw [decide_eq_true (Int.le_refl _), Bool.true_or]
  · rw [inBox_eq h hk, hasTo_iff] at hp
    refine check_inj h hk hi fun l hl => ?_
    have h1 := hp l hl
    have h2 := (cell_in h hi hl).2
    unfold belB at h1
    rw [← Bool.decide_or, decide_eq_true_eq] at h1
    omega
/-- Cutting twice is cutting by the common part. -/
theorem cut_two {D : ArD} (h : D.check = 0) (al ah bl bh : Nat → Int) : sameAr (cutY (cutY D D.n D.n al ah) D.n D.n bl bh) (cutY D D.n D.n (fun k => max (al k) (bl k)) (fun k => min (min (ah k) (bh k)) 1073741825)) = true := by
  have hE : (cutY D D.n D.n al ah).check = 0 := check_pick h _
  have hq : ∀ k, k < D.N → (inBox D D.n D.n al ah k && inBox D D.n D.n bl bh k) = inBox D D.n D.n (fun k => max (al k) (bl k)) (fun k => min (min (ah k) (bh k)) 1073741825) k := fun k hk => by
    rw [inBox_eq h hk, inBox_eq h hk, inBox_eq h hk]
    exact has_inter fun j hj => (cell_in h hk hj).2
  unfold sameAr
  rw [show (cutY (cutY D D.n D.n al ah) D.n D.n bl bh).check = 0 from check_pick hE _, show (cutY D D.n D.n (fun k => max (al k) (bl k)) (fun k => min (min (ah k) (bh k)) 1073741825)).check = 0 from check_pick h _]
  have hr : inBox (cutY D D.n D.n al ah) D.n D.n bl bh = fun k => inBox D D.n D.n bl bh (pickI (inBox D D.n D.n al ah) D.N k) := rfl
  have hc := cnt_two (inBox D D.n D.n al ah) (inBox D D.n D.n bl bh) D.N
  have hn : cntTo (inBox (cutY D D.n D.n al ah) D.n D.n bl bh) (cutY D D.n D.n al ah).N = cntTo (inBox D D.n D.n (fun k => max (al k) (bl k)) (fun k => min (min (ah k) (bh k)) 1073741825)) D.N := by
    rw [hr]
    exact hc.trans (cnt_congr hq)
  have h1 : eqAr ⟨D.n, D.nm, D.lo, D.hi, D.m, D.an, D.ty, cntTo (inBox D D.n D.n (fun k => max (al k) (bl k)) (fun k => min (min (ah k) (bh k)) 1073741825)) D.N, D.c.pick fun k => pickI (inBox D D.n D.n al ah) D.N (pickI (fun k => inBox D D.n D.n bl bh (pickI (inBox D D.n D.n al ah) D.N k)) (cntTo (inBox D D.n D.n al ah) D.N) k)⟩ (cutY D D.n D.n (fun k => max (al k) (bl k)) (fun k => min (min (ah k) (bh k)) 1073741825)) = true := by
    refine eq_picks fun k hk => ?_
    rw [← cnt_congr hq] at hk
    rw [pick_two _ _ _ hk, pick_congr hq]
  have h2 : cutY (cutY D D.n D.n al ah) D.n D.n bl bh = ⟨D.n, D.nm, D.lo, D.hi, D.m, D.an, D.ty, cntTo (inBox D D.n D.n (fun k => max (al k) (bl k)) (fun k => min (min (ah k) (bh k)) 1073741825)) D.N, D.c.pick fun k => pickI (inBox D D.n D.n al ah) D.N (pickI (fun k => inBox D D.n D.n bl bh (pickI (inBox D D.n D.n al ah) D.N k)) (cntTo (inBox D D.n D.n al ah) D.N) k)⟩ := by
    rw [← hn]
    rfl
  rw [h2, h1]
  rfl
/-- Where there is no common part, nothing is left. -/
theorem cut_none {D : ArD} (h : D.check = 0) (al ah bl bh : Nat → Int) (hi : intTo al ah bl bh D.n = false) : (cutY (cutY D D.n D.n al ah) D.n D.n bl bh).N = 0 := by
  have hc := cnt_two (inBox D D.n D.n al ah) (inBox D D.n D.n bl bh) D.N
  show cntTo (fun k => inBox D D.n D.n bl bh (pickI (inBox D D.n D.n al ah) D.N k)) (cntTo (inBox D D.n D.n al ah) D.N) = 0
  rw [hc]
  refine cntTo_none fun k hk => ?_
  rw [inBox_eq h hk, inBox_eq h hk]
  exact has_none (fun j hj => (cell_in h hk hj).2) hi
end Go.Proofs.YtkckoanphciddaaGreatDoor
end

/- A box of two lists that grow. -/
section
namespace Go.Proofs.YtkckoanphciddaaGreatDoor
open Go Go.RowKit Go.Deep

theorem box_gen {W : World} {r : Nat} {x y : Value} (h : W.heap[r]? = some (.cells #[x, y] 66 (0, 0))) : W.cell? ⟨r, 0, none⟩ = some x ∧ W.cell? ⟨r, 1, none⟩ = some y ∧ W.frozen? ⟨r, 0, none⟩ = false ∧ W.frozen? ⟨r, 1, none⟩ = false := by
  refine ⟨by simp [World.cell?, h], by simp [World.cell?, h], by simp [World.frozen?, h], by simp [World.frozen?, h]⟩
theorem box_set0 {W : World} {r : Nat} {x y : Value} (h : W.heap[r]? = some (.cells #[x, y] 66 (0, 0))) (v : Value) : (W.setCell ⟨r, 0, none⟩ v).heap[r]? = some (.cells #[v, y] 66 (0, 0)) := by
  simp [World.setCell, Array.getElem?_modify, h]
theorem box_set1 {W : World} {r : Nat} {x y : Value} (h : W.heap[r]? = some (.cells #[x, y] 66 (0, 0))) (v : Value) : (W.setCell ⟨r, 1, none⟩ v).heap[r]? = some (.cells #[x, v] 66 (0, 0)) := by
  simp [World.setCell, Array.getElem?_modify, h]
theorem OwnI.congr {w : World} {B n : Nat} {v : Value} {f g : Nat → Int} (h : OwnI w B v n f) (hfg : ∀ k, k < n → f k = g k) : OwnI w B v n g := by
  obtain ⟨xs, h1, h2⟩ := h
  exact ⟨xs, h1, fun k hk => by rw [← hfg k hk]; exact h2 k hk⟩
theorem OwnI.ints' {w : World} {B n c : Nat} {P : Option Addr} {f : Nat → Int} (h : OwnI w B (.slice P n c) n f) : IntsAt w P n f := by
  obtain ⟨P', c', e, h1⟩ := h.ints
  injection e with e1
  subst e1
  exact h1
theorem OwnI.ne {w : World} {B n b : Nat} {v : Value} {f : Nat → Int} (h : OwnI w B v n f) (hb : b < B) : v.ownBlock = none ∨ v.ownBlock ≠ some b := by
  cases e : v.ownBlock with
  | none => exact .inl rfl
  | some g =>
    have := (h.block e).1
    refine .inr fun e2 => ?_
    injection e2 with e2
    omega
theorem ne_sym {v u : Option Nat} (h : v = none ∨ v ≠ u) : u = none ∨ u ≠ v := by
  cases u with
  | none => exact .inl rfl
  | some a =>
    refine .inr fun e => ?_
    rcases h with h | h
    · rw [h] at e; cases e
    · exact h e.symm
theorem ne_new {w : World} {B n : Nat} {v v' u : Value} {f : Nat → Int} (hu : OwnI w B u n f) (h : v.ownBlock = none ∨ v.ownBlock ≠ u.ownBlock) (hat : v'.ownBlock = v.ownBlock ∨ ∃ g, v'.ownBlock = some g ∧ w.heap.size ≤ g) : v'.ownBlock = none ∨ v'.ownBlock ≠ u.ownBlock := by
  rcases hat with e | ⟨g, e, hg⟩
  · rw [e]; exact h
  · refine .inr fun e2 => ?_
    rw [e] at e2
    have := (hu.block e2.symm).2
    omega
theorem kept_at {w w' : World} {b : Nat} {row : Option Nat} (hg : w.grownBy w' row) (hb : b < w.heap.size) (hne : row = none ∨ row ≠ some b) : w'.heap[b]? = w.heap[b]? :=
  hg.block b hb fun e => by
    rcases hne with h | h
    · rw [h] at e; cases e
    · exact h e.symm
theorem below_own {a w w' : World} {A B n : Nat} {v : Value} {f : Nat → Int} (hb : Below A a w) (hA : A ≤ w.heap.size) (ho : OwnI w B v n f) (hAB : A ≤ B) (hg : w.grownBy w' v.ownBlock) : Below A a w' :=
  hb.grown hg hA fun g e => by have := (ho.block e).1; omega
/-- The box at ob holds two lists of the walk's own. -/
def InS2 (ob : Nat) (W : World) (x1 x2 : Value) (k1 k2 : Nat) (f g : Nat → Int) : Prop :=
  W.heap[ob]? = some (.cells #[x1, x2] 66 (0, 0)) ∧ OwnI W (ob + 1) x1 k1 f ∧ OwnI W (ob + 1) x2 k2 g ∧ (x1.ownBlock = none ∨ x1.ownBlock ≠ x2.ownBlock)
theorem InS2.app1 {W W' : World} {ob : Nat} {x1 x2 x1' : Value} {k1 k2 : Nat} {f g f' : Nat → Int} (h : InS2 ob W x1 x2 k1 k2 f g) (ho : OwnI W' (ob + 1) x1' (k1 + 1) f') (hg : W.grownBy W' x1.ownBlock) (hat : x1'.ownBlock = x1.ownBlock ∨ ∃ g, x1'.ownBlock = some g ∧ W.heap.size ≤ g) :
    W'.heap[ob]? = some (.cells #[x1, x2] 66 (0, 0)) ∧ InS2 ob (W'.setCell ⟨ob, 0, none⟩ x1') x1' x2 (k1 + 1) k2 f' g ∧ Below ob W (W'.setCell ⟨ob, 0, none⟩ x1') := by
  obtain ⟨hbx, HO1, HO2, HNe⟩ := h
  have hobl : ob < W.heap.size := (Array.getElem?_eq_some_iff.1 hbx).1
  have hbx8 := (kept_at hg hobl (HO1.ne (by omega))).trans hbx
  have ho28 := HO2.kept hg (ne_sym HNe)
  have HB8 : Below ob W W' := below_own (Below.refl _ _) (by omega) HO1 (by omega) hg
  exact ⟨hbx8, ⟨box_set0 hbx8 x1', ho.kept (grown_set W' ob 0 x1') (ho.ne (by omega)), ho28.kept (grown_set W' ob 0 x1') (ho28.ne (by omega)), ne_new HO2 HNe hat⟩, HB8.setCell (p := ⟨ob, 0, none⟩) (Nat.le_refl _) _⟩
theorem InS2.app2 {W W' : World} {ob : Nat} {x1 x2 x2' : Value} {k1 k2 : Nat} {f g g' : Nat → Int} (h : InS2 ob W x1 x2 k1 k2 f g) (ho : OwnI W' (ob + 1) x2' (k2 + 1) g') (hg : W.grownBy W' x2.ownBlock) (hat : x2'.ownBlock = x2.ownBlock ∨ ∃ g, x2'.ownBlock = some g ∧ W.heap.size ≤ g) :
    W'.heap[ob]? = some (.cells #[x1, x2] 66 (0, 0)) ∧ InS2 ob (W'.setCell ⟨ob, 1, none⟩ x2') x1 x2' k1 (k2 + 1) f g' ∧ Below ob W (W'.setCell ⟨ob, 1, none⟩ x2') := by
  obtain ⟨hbx, HO1, HO2, HNe⟩ := h
  have hobl : ob < W.heap.size := (Array.getElem?_eq_some_iff.1 hbx).1
  have hbx8 := (kept_at hg hobl (HO2.ne (by omega))).trans hbx
  have ho18 := HO1.kept hg HNe
  have HB8 : Below ob W W' := below_own (Below.refl _ _) (by omega) HO2 (by omega) hg
  exact ⟨hbx8, ⟨box_set1 hbx8 x2', ho18.kept (grown_set W' ob 1 x2') (ho18.ne (by omega)), ho.kept (grown_set W' ob 1 x2') (ho.ne (by omega)), ne_sym (ne_new HO1 (ne_sym HNe) hat)⟩, HB8.setCell (p := ⟨ob, 1, none⟩) (Nat.le_refl _) _⟩
end Go.Proofs.YtkckoanphciddaaGreatDoor
end

/- Operations on boxes, dimensions and integers in regions whose order is open. -/
section
namespace Go.Proofs.YtkckoanphciddaaGreatDoor
open Go Go.RowKit Go.Deep
section
variable {ops : Array Oper} {Q : Exit → Act → World → Prop} {K : Act → World → Prop} {a : Act} {w : World}
set_option maxRecDepth 100000 in
theorem op_fB {o : Oper} {d t b f : Nat} (hf : f < 2) (ho : o.op = .fieldAddr 66 (.tmp t) f) (hd : o.dst = some d) (hs : slot a t = .pointer (some ⟨b, 0, none⟩)) (h : K (putSlot a d (.pointer (some ⟨b, f, none⟩))) w) : o.wp Tryz.prog a w K Q := by
  obtain ⟨op, dst, ty, pos, after, guard⟩ := o
  dsimp only at ho hd
  subst ho hd
  have hs' : a.tmps[t]?.getD undef = .pointer (some ⟨b, 0, none⟩) := hs
  unfold Oper.wp
  rcases (by omega : f = 0 ∨ f = 1) with rfl | rfl <;> (go_simp; exact h)
theorem op_ixD {o : Oper} {d t i b off n c k : Nat} (ho : o.op = .indexAddr 22 (.tmp t) (.tmp i)) (hd : o.dst = some d) (hs : slot a t = .slice (some ⟨b, off, none⟩) n c) (hi : slot a i = .int .i64 (k : Int)) (hk : k < n) (h : K (putSlot a d (.pointer (some ⟨b, off + k * 3, none⟩))) w) : o.wp Tryz.prog a w K Q := by
  obtain ⟨op, dst, ty, pos, after, guard⟩ := o
  dsimp only at ho hd
  subst ho hd
  have hs' : a.tmps[t]?.getD undef = .slice (some ⟨b, off, none⟩) n c := hs
  have hi' : a.tmps[i]?.getD undef = .int .i64 (k : Int) := hi
  have h0 : (0 : Int) ≤ (k : Int) := by omega
  have h1 : (k : Int) < (n : Int) := by omega
  unfold Oper.wp
  go_simp
  exact h
set_option maxRecDepth 100000 in
theorem op_fD {o : Oper} {d t b off f : Nat} (hf : f < 3) (ho : o.op = .fieldAddr 43 (.tmp t) f) (hd : o.dst = some d) (hs : slot a t = .pointer (some ⟨b, off, none⟩)) (h : K (putSlot a d (.pointer (some ⟨b, off + f, none⟩))) w) : o.wp Tryz.prog a w K Q := by
  obtain ⟨op, dst, ty, pos, after, guard⟩ := o
  dsimp only at ho hd
  subst ho hd
  have hs' : a.tmps[t]?.getD undef = .pointer (some ⟨b, off, none⟩) := hs
  unfold Oper.wp
  rcases (by omega : f = 0 ∨ f = 1 ∨ f = 2) with rfl | rfl | rfl <;> (go_simp; exact h)
theorem op_ldI {o : Oper} {d t b off : Nat} {v : Value} (ho : o.op = .load 3 (.tmp t)) (hd : o.dst = some d) (hs : slot a t = .pointer (some ⟨b, off, none⟩)) (hc : w.cell? ⟨b, off, none⟩ = some v) (h : K (putSlot a d v) w) : o.wp Tryz.prog a w K Q := by
  obtain ⟨op, dst, ty, pos, after, guard⟩ := o
  dsimp only at ho hd
  subst ho hd
  have hs' : a.tmps[t]?.getD undef = .pointer (some ⟨b, off, none⟩) := hs
  unfold Oper.wp
  go_simp
  exact h
theorem op_bsI {o : Oper} {d t : Nat} {x : Int} (ho : o.op = .buildSlice 35 1 #[(0, .tmp t)]) (hd : o.dst = some d) (hs : slot a t = .int .i64 x) (h : K (putSlot a d (.slice (some ⟨w.heap.size, 0, none⟩) 1 1)) (w.alloc (.cells #[.int .i64 x] 3))) : o.wp Tryz.prog a w K Q := by
  obtain ⟨op, dst, ty, pos, after, guard⟩ := o
  dsimp only at ho hd
  subst ho hd
  have hs' : a.tmps[t]?.getD undef = .int .i64 x := hs
  unfold Oper.wp
  go_simp
  exact h
end
/-- A literal of one integer, in a block from B on. -/
def OneI (x : Int) (B : Nat) : Value → World → Prop := fun v W => ∃ b, v = .slice (some ⟨b, 0, none⟩) 1 1 ∧ B ≤ b ∧ W.heap[b]? = some (.cells #[.int .i64 x] 3 (0, 0))
theorem oneI_mono (x : Int) (B : Nat) : Mono (OneI x B) := by
  rintro v w w' ⟨b, h1, h2, h3⟩ hb; exact ⟨b, h1, h2, (hb.block b (Array.getElem?_eq_some_iff.1 h3).1).trans h3⟩
/-- One number more, behind a literal of one number at b: the list lies where it lay, or in a new block. -/
theorem wpList_appJ {ops : Array Oper} {rest : List Oper} {o : Oper} {a : Act} {Q : Exit → Act → World → Prop} (hgd : o.guard = none) (s x : Operand)
    (ho : o.op = .call { callee := .builtin .append, args := #[s, x], argTypes := #[35, 35] })
    (W : World) (d : Int) (B : Nat) (v : Value) (n : Nat) (f : Nat → Int) (hs : a.eval s = v) (b : Nat) (hx : a.eval x = .slice (some ⟨b, 0, none⟩) 1 1) (hb : W.heap[b]? = some (.cells #[.int .i64 d] 3 (0, 0)))
    (hown : OwnI W B v n f) (hn : n ≤ 1000000) (hB : B ≤ W.heap.size)
    (h : ∀ v' w', OwnI w' B v' (n + 1) (updZ f n d) → W.grownBy w' v.ownBlock → (v'.ownBlock = v.ownBlock ∨ ∃ g, v'.ownBlock = some g ∧ W.heap.size ≤ g) → wpList Tryz.prog ops Q rest (a.put o.dst v') w') : wpList Tryz.prog ops Q (o :: rest) a W := by
  obtain ⟨xs, h1, h2⟩ := hown
  obtain ⟨i0, hi0, hz0, hz1, hz2⟩ := info_parts info_int
  have hnew : ∀ j u, [Value.int .i64 d][j]? = some u → W.cell? ((⟨b, 0, none⟩ : Addr).add j) = some u := by
    intro j u hu
    have hj : j = 0 := by
      rcases j with _ | j
      · rfl
      · simp at hu
    subst hj
    have hu' : u = .int .i64 d := by simpa using hu.symm
    subst hu'
    simp [World.cell?, hb, Addr.add]
  refine wpList_append_own_at _ hgd s x 35 ho B 3 i0 (.int .i64 0) 1 8 Tryz.underlying35 hi0 hz0 hz1 hz2 rfl Nat.zero_lt_one v n xs hs h1 ⟨b, 0, none⟩ 1 1 [.int .i64 d] hx rfl hnew
    (fun u hu => by have h9 : u = .int .i64 d := by simpa using hu
                    subst h9; rfl) (by unfold maxLen; omega) (by omega) hB ?_
  intro v' w' g1 g2 _ g4
  refine h v' w' ⟨xs ++ [.int .i64 d], g1, fun k hk => ?_⟩ g2 (g4.imp id fun h9 => ⟨_, h9, Nat.le_refl _⟩)
  have hl : xs.length = n := by rw [h1.1, Nat.mul_one]
  unfold updZ
  by_cases e : k = n
  · subst e
    rw [if_pos rfl, List.getElem?_append_right (by omega), hl, Nat.sub_self]
    rfl
  · rw [if_neg e, List.getElem?_append_left (by omega)]
    exact h2 k (by omega)
end Go.Proofs.YtkckoanphciddaaGreatDoor
end

/- Lists of the walk's own outlast what is above them. -/
section
namespace Go.Proofs.YtkckoanphciddaaGreatDoor
open Go Go.RowKit Go.Deep

theorem OwnI.below {w w' : World} {B n : Nat} {v : Value} {f : Nat → Int} (h : OwnI w B v n f) (hb : Below w.heap.size w w') : OwnI w' B v n f := h.kept (Below.by_ hb) (by cases e : v.ownBlock with | none => exact .inl rfl | some g => exact .inr (by simp))
theorem InS2.below {W W' : World} {ob : Nat} {x1 x2 : Value} {k1 k2 : Nat} {f g : Nat → Int} (h : InS2 ob W x1 x2 k1 k2 f g) (hb : Below W.heap.size W W') : InS2 ob W' x1 x2 k1 k2 f g := ⟨(hb.block _ (Array.getElem?_eq_some_iff.1 h.1).1).trans h.1, h.2.1.below hb, h.2.2.1.below hb, h.2.2.2⟩
end Go.Proofs.YtkckoanphciddaaGreatDoor
end

/- A box of two lists that are written in place. -/
section
namespace Go.Proofs.YtkckoanphciddaaGreatDoor
open Go Go.RowKit Go.Deep

theorem OwnI.at_ {w : World} {B n g c : Nat} {f : Nat → Int} (h : OwnI w B (.slice (some ⟨g, 0, none⟩) n c) n f) (hn : 0 < n) : B ≤ g ∧ g < w.heap.size ∧ (∀ k, k < n → w.cell? ⟨g, k, none⟩ = some (.int .i64 (f k))) ∧ (∀ k, w.frozen? ⟨g, k, none⟩ = false) ∧ ∀ k y, k < n → OwnI (w.setCell ⟨g, k, none⟩ (.int .i64 y)) B (.slice (some ⟨g, 0, none⟩) n c) n (updZ f k y) := by
  obtain ⟨g', c', e, h1, h2, h3, h4, h5⟩ := h.put hn
  injection e with e _ e2
  injection e with e
  injection e with e
  subst e e2
  exact ⟨h1, h2, h3, h4, h5⟩
/-- The box at bb has two lists of the walk's own, f and g. -/
def HuSt (B gl cl gh ch bb n b0 : Nat) (W0 W : World) (f g : Nat → Int) : Prop :=
  OwnI W B (.slice (some ⟨gl, 0, none⟩) n cl) n f ∧ OwnI W B (.slice (some ⟨gh, 0, none⟩) n ch) n g ∧ W.heap[bb]? = some (.cells #[.slice (some ⟨gl, 0, none⟩) n cl, .slice (some ⟨gh, 0, none⟩) n ch] 66 (0, 0)) ∧ Below b0 W0 W
section
variable {B gl cl gh ch bb n b0 : Nat} {W0 W W' : World} {f g f' g' : Nat → Int}
theorem HuSt.below (h : HuSt B gl cl gh ch bb n b0 W0 W f g) (hb : Below W.heap.size W W') (hz : b0 ≤ W0.heap.size) : HuSt B gl cl gh ch bb n b0 W0 W' f g :=
  ⟨h.1.below hb, h.2.1.below hb, (hb.block _ (Array.getElem?_eq_some_iff.1 h.2.2.1).1).trans h.2.2.1, h.2.2.2.trans (hb.mono (Nat.le_trans hz h.2.2.2.size))⟩
theorem HuSt.congr (h : HuSt B gl cl gh ch bb n b0 W0 W f g) (h1 : ∀ j, j < n → f j = f' j) (h2 : ∀ j, j < n → g j = g' j) : HuSt B gl cl gh ch bb n b0 W0 W f' g' := ⟨h.1.congr h1, h.2.1.congr h2, h.2.2⟩
theorem HuSt.setL (h : HuSt B gl cl gh ch bb n b0 W0 W f g) (hne : gl ≠ gh ∧ gl ≠ bb) (hb : b0 ≤ gl) {j : Nat} (hj : j < n) (y : Int) : HuSt B gl cl gh ch bb n b0 W0 (W.setCell ⟨gl, j, none⟩ (.int .i64 y)) (updZ f j y) g :=
  ⟨(h.1.at_ (by omega)).2.2.2.2 j y hj, h.2.1.kept (grown_set _ _ _ _) (.inr fun e => by injection e with e; exact hne.1 e.symm), (blk_setCell_other _ _ _ _ (fun e => hne.2 e.symm)).trans h.2.2.1, h.2.2.2.setCell (p := ⟨gl, j, none⟩) hb _⟩
theorem HuSt.setH (h : HuSt B gl cl gh ch bb n b0 W0 W f g) (hne : gl ≠ gh ∧ gh ≠ bb) (hb : b0 ≤ gh) {j : Nat} (hj : j < n) (y : Int) : HuSt B gl cl gh ch bb n b0 W0 (W.setCell ⟨gh, j, none⟩ (.int .i64 y)) f (updZ g j y) :=
  ⟨h.1.kept (grown_set _ _ _ _) (.inr fun e => by injection e with e; exact hne.1 e), (h.2.1.at_ (by omega)).2.2.2.2 j y hj, (blk_setCell_other _ _ _ _ (fun e => hne.2 e.symm)).trans h.2.2.1, h.2.2.2.setCell (p := ⟨gh, j, none⟩) hb _⟩
theorem HuSt.cells (h : HuSt B gl cl gh ch bb n b0 W0 W f g) {j : Nat} (hj : j < n) : (W.cell? ⟨bb, 0, none⟩ = some (.slice (some ⟨gl, 0, none⟩) n cl) ∧ W.cell? ⟨bb, 1, none⟩ = some (.slice (some ⟨gh, 0, none⟩) n ch)) ∧ (W.cell? ⟨gl, j, none⟩ = some (.int .i64 (f j)) ∧ W.frozen? ⟨gl, j, none⟩ = false) ∧ W.cell? ⟨gh, j, none⟩ = some (.int .i64 (g j)) ∧ W.frozen? ⟨gh, j, none⟩ = false := by
  have h1 := h.1.at_ (by omega)
  have h2 := h.2.1.at_ (by omega)
  exact ⟨⟨(box_gen h.2.2.1).1, (box_gen h.2.2.1).2.1⟩, ⟨h1.2.2.1 j hj, h1.2.2.2.1 j⟩, h2.2.2.1 j hj, h2.2.2.2.1 j⟩
end
/-- The first j numbers of the next round, and the others of this one. -/
def mixI (a b : Nat → Int) (j : Nat) : Nat → Int := fun i => if i < j then b i else a i
theorem mix_upd {a b : Nat → Int} {j : Nat} {y : Int} (h : y = b j) (i : Nat) : updZ (mixI a b j) j y i = mixI a b (j + 1) i := by
  unfold updZ mixI
  by_cases e : i = j
  · subst e
    rw [if_pos rfl, if_pos (Nat.lt_succ_self _), h]
  · rw [if_neg e]
    by_cases h2 : i < j
    · rw [if_pos h2, if_pos (by omega)]
    · rw [if_neg h2, if_neg (by omega)]
theorem mix_end {a b : Nat → Int} {j n : Nat} (hj : j < n) : mixI a b n j = b j := if_pos hj
theorem mix_at {a b : Nat → Int} (j : Nat) : mixI a b j j = a j := if_neg (Nat.lt_irrefl j)
end Go.Proofs.YtkckoanphciddaaGreatDoor
end
