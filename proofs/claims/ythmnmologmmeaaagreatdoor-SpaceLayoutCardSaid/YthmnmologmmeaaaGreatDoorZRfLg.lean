/- The reference's Core: good, or out of range. -/
import Derived.Test.YthmnmologmmeaaaGreatDoorZTwo
import Derived.Test.YthmnmologmmeaaaGreatDoorZOpX
import Derived.Test.YthmnmologmmeaaaGreatDoorZOpZ
namespace Go.Proofs.YthmnmologmmeaaaGreatDoor
open Go Go.RowKit Go.Deep

/-- How it stands in the loop: the box at ob holds two lists of the walk's own. -/
def InSt2 (w W0 : World) (ob : Nat) (W : World) (x1 x2 : Value) (k1 k2 : Nat) (f g : Nat → Int) : Prop :=
  W.heap[ob]? = some (.cells #[x1, x2] 66 (0, 0)) ∧ OwnI W (ob + 1) x1 k1 f ∧ OwnI W (ob + 1) x2 k2 g ∧ (x1.ownBlock = none ∨ x1.ownBlock ≠ x2.ownBlock) ∧ Below w.heap.size w W ∧ Below (w.heap.size + 2) W0 W
theorem InSt2.app1 {w W0 W W' : World} {ob : Nat} {x1 x2 x1' : Value} {k1 k2 : Nat} {f g f' : Nat → Int} (h : InSt2 w W0 ob W x1 x2 k1 k2 f g) (hz : w.heap.size + 2 ≤ ob) (ho : OwnI W' (ob + 1) x1' (k1 + 1) f') (hg : W.grownBy W' x1.ownBlock) (hat : x1'.ownBlock = x1.ownBlock ∨ ∃ g, x1'.ownBlock = some g ∧ W.heap.size ≤ g) :
    W'.heap[ob]? = some (.cells #[x1, x2] 66 (0, 0)) ∧ InSt2 w W0 ob (W'.setCell ⟨ob, 0, none⟩ x1') x1' x2 (k1 + 1) k2 f' g := by
  obtain ⟨hbx, HO1, HO2, HNe, HBw, HB0w⟩ := h
  have hobl : ob < W.heap.size := (Array.getElem?_eq_some_iff.1 hbx).1
  have hbx8 := (kept_at hg hobl (HO1.ne (by omega))).trans hbx
  have ho28 := HO2.kept hg (ne_sym HNe)
  have HB8 := below_own HBw HBw.size HO1 (by omega) hg
  have HB08 := below_own HB0w (by omega) HO1 (by omega) hg
  exact ⟨hbx8, box_set0 hbx8 x1', ho.kept (grown_set W' ob 0 x1') (ho.ne (by omega)), ho28.kept (grown_set W' ob 0 x1') (ho28.ne (by omega)), ne_new HO2 HNe hat, HB8.setCell (p := ⟨ob, 0, none⟩) (by show w.heap.size ≤ ob; omega) _, HB08.setCell (p := ⟨ob, 0, none⟩) (by show w.heap.size + 2 ≤ ob; omega) _⟩
theorem InSt2.app2 {w W0 W W' : World} {ob : Nat} {x1 x2 x2' : Value} {k1 k2 : Nat} {f g g' : Nat → Int} (h : InSt2 w W0 ob W x1 x2 k1 k2 f g) (hz : w.heap.size + 2 ≤ ob) (ho : OwnI W' (ob + 1) x2' (k2 + 1) g') (hg : W.grownBy W' x2.ownBlock) (hat : x2'.ownBlock = x2.ownBlock ∨ ∃ g, x2'.ownBlock = some g ∧ W.heap.size ≤ g) :
    W'.heap[ob]? = some (.cells #[x1, x2] 66 (0, 0)) ∧ InSt2 w W0 ob (W'.setCell ⟨ob, 1, none⟩ x2') x1 x2' k1 (k2 + 1) f g' := by
  obtain ⟨hbx, HO1, HO2, HNe, HBw, HB0w⟩ := h
  have hobl : ob < W.heap.size := (Array.getElem?_eq_some_iff.1 hbx).1
  have hbx8 := (kept_at hg hobl (HO2.ne (by omega))).trans hbx
  have ho18 := HO1.kept hg HNe
  have HB8 := below_own HBw HBw.size HO2 (by omega) hg
  have HB08 := below_own HB0w (by omega) HO2 (by omega) hg
  exact ⟨hbx8, box_set1 hbx8 x2', ho18.kept (grown_set W' ob 1 x2') (ho18.ne (by omega)), ho.kept (grown_set W' ob 1 x2') (ho.ne (by omega)), ne_sym (ne_new HO1 (ne_sym HNe) hat), HB8.setCell (p := ⟨ob, 1, none⟩) (by show w.heap.size ≤ ob; omega) _, HB08.setCell (p := ⟨ob, 1, none⟩) (by show w.heap.size + 2 ≤ ob; omega) _⟩

/-- How many there are. -/
def cntK (b : Bool) (n : Nat) : Nat := match b with | true => n | false => 0
theorem OwnI.base {w : World} {B B' n : Nat} {v : Value} {f : Nat → Int} (h : OwnI w B v n f) (hb : B' ≤ B) : OwnI w B' v n f := by
  obtain ⟨xs, ⟨hl, h1⟩, h2⟩ := h
  refine ⟨xs, ⟨hl, h1.imp id ?_⟩, h2⟩
  rintro ⟨g, cap, cur, e, hB, hr⟩
  exact ⟨g, cap, cur, e, Nat.le_trans hb hB, hr⟩
theorem InSt2.below {w W0 W W' : World} {ob : Nat} {x1 x2 : Value} {k1 k2 : Nat} {f g : Nat → Int} (h : InSt2 w W0 ob W x1 x2 k1 k2 f g) (hz : w.heap.size + 2 ≤ ob) (hb : Below W.heap.size W W') : InSt2 w W0 ob W' x1 x2 k1 k2 f g := by
  obtain ⟨hbx, HO1, HO2, HNe, HBw, HB0w⟩ := h
  have hobl : ob < W.heap.size := (Array.getElem?_eq_some_iff.1 hbx).1
  exact ⟨(hb.block ob hobl).trans hbx, HO1.below hb, HO2.below hb, HNe, st HBw hb, HB0w.trans (hb.mono (by omega))⟩
set_option maxRecDepth 100000 in
set_option maxHeartbeats 8000000 in
theorem r_Core_all (w : World) (A S O X : Option Addr) (n cap s sc o oc m mc : Nat) (nm : Nat → ByteArray) (lo hi sd ov c : Nat → Int) (ord tile form codec : Int) (hd : DimsAt w A n nm lo hi) (hs : IntsAt w S s sd) (ho : IntsAt w O o ov) (hx : IntsAt w X m c) (hns : ∀ k, k < n → (nm k).size ≤ 9223372036854775807) (hs1 : s ≤ 1000) (ho1 : o ≤ 1000) (hn1 : n ≤ 1000) (hm1 : m ≤ 1000)
    (h0 : layE nm lo hi n sd ov s o ord tile form codec = 0) (hmn : m = n) :
    Calls Tryz.prog 27 #[.slice A n cap, LayV S s sc O o oc ord tile form codec, .slice X m mc] w fun e w' => ∃ v1 v2, e = .returned (.tuple #[.agg #[v1, v2], .int .i64 (rangeE (cinTo lo hi sd c n))]) ∧ OwnI w' w.heap.size v1 (cntK (cinTo lo hi sd c n) n) (coreLo lo sd c) ∧ OwnI w' w.heap.size v2 (cntK (cinTo lo hi sd c n) n) (coreHi lo hi sd c) ∧ (v1.ownBlock = none ∨ v1.ownBlock ≠ v2.ownBlock) ∧ (cinTo lo hi sd c n = false → v1 = .slice none 0 0 ∧ v2 = .slice none 0 0) ∧ Below w.heap.size w w' := by
  have KB := Lib.hid (lay_box w S O s sc o oc ord tile form codec)
  have HB : Hid (Below w.heap.size w (w.alloc (.cells #[.slice S s sc, .slice O o oc, .int .i64 ord, .int .i64 tile, .int .i64 form, .int .i64 codec] 54))) := (Below.refl _ _).alloc (Nat.le_refl _) _
  have HL := Lib.hid (fun W h1 h2 h3 => r_Layout W A S O n cap s sc o oc nm lo hi sd ov ord tile form codec h1 h2 h3 hns hn1 hs1 ho1)
  have HLL := Lib.hid r_Last
  obtain rfl := hmn
  obtain ⟨rfl, rfl, _, hn4, hf⟩ := lay_facts h0
  have HF := Lib.hid hf
  obtain ⟨ve, hve⟩ : ∃ ve, cinTo lo hi sd c o = ve := ⟨_, rfl⟩
  have HVE := Lib.hid hve
  rw [hve]
  clear hve
  rw [h0] at HL
  have HD := Lib.hid hd
  have HS := Lib.hid hs
  have HO := Lib.hid ho
  have HX := Lib.hid hx
  clear hd hs ho hx h0 hf hns
  go_enter Tryz.func27, Tryz.ntmps27
  go_wp2_with fail
  have hz0 : ((w.alloc (.cells #[.slice S o sc, .slice O o oc, .int .i64 ord, .int .i64 tile, .int .i64 form, .int .i64 codec] 54)).alloc (.cells #[.slice none 0 0, .slice none 0 0] 66)).heap.size = w.heap.size + 2 := by simp
  have KB2 : Hid (∀ W, Below (w.heap.size + 2) ((w.alloc (.cells #[.slice S o sc, .slice O o oc, .int .i64 ord, .int .i64 tile, .int .i64 form, .int .i64 codec] 54)).alloc (.cells #[.slice none 0 0, .slice none 0 0] 66)) W → W.cell? ⟨w.heap.size, 0, none⟩ = some (.slice S o sc) ∧ W.heap[w.heap.size + 1]? = some (.cells #[.slice none 0 0, .slice none 0 0] 66 (0, 0))) := fun W hW => by
    refine ⟨(KB.out W (Below.trans ((Below.refl _ _).alloc (Nat.le_refl _) _) (hW.mono (by simp)))).1, ?_⟩
    have h9 := heap_alloc_new (w.alloc (.cells #[.slice S o sc, .slice O o oc, .int .i64 ord, .int .i64 tile, .int .i64 form, .int .i64 codec] 54)) (.cells #[.slice none 0 0, .slice none 0 0] 66)
    rw [World.size_alloc] at h9
    exact (hW.block _ (by omega)).trans h9
  have HB2 : Hid (Below w.heap.size w ((w.alloc (.cells #[.slice S o sc, .slice O o oc, .int .i64 ord, .int .i64 tile, .int .i64 form, .int .i64 codec] 54)).alloc (.cells #[.slice none 0 0, .slice none 0 0] 66))) := HB.out.alloc (by simp) _
  clear KB HB
  generalize (w.alloc (.cells #[.slice S o sc, .slice O o oc, .int .i64 ord, .int .i64 tile, .int .i64 form, .int .i64 codec] 54)).alloc (.cells #[.slice none 0 0, .slice none 0 0] 66) = W0 at *
  refine (HL.out _ (HD.out.below HB2.out) (HS.out.below HB2.out) (HO.out.below HB2.out)).mono ?_
  rintro e w1 ⟨rfl, hb1⟩
  have HB1 : Hid (Below w.heap.size w w1) := st HB2.out hb1
  have HB01 : Hid (Below (w.heap.size + 2) W0 w1) := by show Below _ _ _; rw [← hz0]; exact hb1
  have hz1 : w.heap.size + 2 ≤ w1.heap.size := by rw [← hz0]; exact hb1.size
  clear hb1 HL
  obtain ⟨l0, hres⟩ := KB2.out w1 HB01.out
  have hbx2 : (w1.alloc (.cells #[.slice none 0 0, .slice none 0 0] 66)).heap[w1.heap.size]? = some (.cells #[.slice none 0 0, .slice none 0 0] 66 (0, 0)) := heap_alloc_new _ _
  have HB3 : Hid (Below w.heap.size w (w1.alloc (.cells #[.slice none 0 0, .slice none 0 0] 66))) := HB1.out.alloc (by omega) _
  have HB03 : Hid (Below (w.heap.size + 2) W0 (w1.alloc (.cells #[.slice none 0 0, .slice none 0 0] 66))) := HB01.out.alloc hz1 _
  have hz3 : (w1.alloc (.cells #[.slice none 0 0, .slice none 0 0] 66)).heap.size = w1.heap.size + 1 := by simp
  clear hres
  go_wp2_with fail
  clear l0
  generalize w1.alloc (.cells #[.slice none 0 0, .slice none 0 0] 66) = w3 at *
  obtain ⟨ob, hob⟩ : ∃ ob, w1.heap.size = ob := ⟨_, rfl⟩
  rw [hob] at hz1 hz3 hbx2 ⊢
  clear hob HB1 HB01
  go_loopw [10, 11] (fun i _ wr => ∃ (k : Nat) (v1 v2 : Value), k ≤ o ∧ i = .int .i64 k ∧ wr.heap[ob]? = some (.cells #[v1, v2] 66 (0, 0)) ∧ Hid (OwnI wr (ob + 1) v1 k (coreLo lo sd c)) ∧ Hid (OwnI wr (ob + 1) v2 k (coreHi lo hi sd c)) ∧ Hid (v1.ownBlock = none ∨ v1.ownBlock ≠ v2.ownBlock) ∧ Hid (cinTo lo hi sd c k = true) ∧ Hid (Below w.heap.size w wr) ∧ Hid (Below (w.heap.size + 2) W0 wr)) (fun i _ _ => o - (intOf i).toNat)
  case atStart => exact ⟨0, _, _, Nat.zero_le _, rfl, hbx2, OwnI.nil _ _ _, OwnI.nil _ _ _, .inl rfl, rfl, HB3.out, HB03.out⟩
  case round =>
    obtain ⟨k, v1, v2, hk, rfl, hbx, HO1, HO2, HNe, HT, HBw, HB0w⟩ := hrel
    by_cases hlt : k < o
    · obtain ⟨bd, od, rfl, hbd, hc⟩ := HD.out (by omega)
      obtain ⟨d0, d1, d2⟩ := hc k hlt
      clear hc
      obtain ⟨bs, os, rfl, hbs, hcs⟩ := HS.out (by omega)
      have x0 := hcs k hlt
      obtain ⟨bx, ox, rfl, hbx9, hcx⟩ := HX.out (by omega)
      have e0 := hcx k hlt
      clear hcs hcx
      have HCC : Hid (∀ W, Below w.heap.size w W → Below (w.heap.size + 2) W0 W → (W.cell? ⟨bx, ox + k, none⟩ = some (.int .i64 (c k)) ∧ W.cell? ⟨bd, od + k * 3, none⟩ = some (.string (nm k)) ∧ W.cell? ⟨bd, od + k * 3 + 1, none⟩ = some (.int .i64 (lo k)) ∧ W.cell? ⟨bd, od + k * 3 + 2, none⟩ = some (.int .i64 (hi k))) ∧ W.cell? ⟨w.heap.size, 0, none⟩ = some (.slice (some ⟨bs, os, none⟩) o sc) ∧ W.cell? ⟨bs, os + k, none⟩ = some (.int .i64 (sd k))) := fun W hW hW0 =>
        ⟨⟨(hW.cell (p := ⟨bx, ox + k, none⟩) hbx9).trans e0, (hW.cell (p := ⟨bd, od + k * 3, none⟩) hbd).trans d0, (hW.cell (p := ⟨bd, od + k * 3 + 1, none⟩) hbd).trans d1, (hW.cell (p := ⟨bd, od + k * 3 + 2, none⟩) hbd).trans d2⟩, (KB2.out W hW0).1, (hW.cell (p := ⟨bs, os + k, none⟩) hbs).trans x0⟩
      clear e0 d0 d1 d2 hbd hbx9 hbs x0
      have hfk := HF.out k hlt
      obtain ⟨⟨y0, c0, c1, c2⟩, s0, s1⟩ := HCC.out wr HBw.out HB0w.out
      by_cases hneg : c k < 0
      · have HR : Hid (cinTo lo hi sd c o = false) := cinTo_le (k := k + 1) (by rw [cinTo, decide_eq_false (by omega), Bool.and_false]) (by omega)
        generalize lastZ (hi k) = hl at *
        generalize nm k = sn at *
        generalize lo k = l9 at *
        generalize hi k = h9 at *
        generalize c k = z at *
        generalize sd k = q at *
        obtain ⟨f1, f2, f3, f4, f5, f6, f7, f8, f9, f10⟩ := hfk
        have r1 : decide (z < 0) = true := decide_eq_true hneg
        go_wp2_with fail
        go_quiet (fail)
        have HBq : Hid (Below w.heap.size w (wr.drewN nq)) := drewB HBw.out _
        have HB0q : Hid (Below (w.heap.size + 2) W0 (wr.drewN nq)) := drewB HB0w.out _
        clear y0 c0 c1 c2 s0 s1 hbx
        generalize wr.drewN nq = wq at *
        have hres := (KB2.out wq HB0q.out).2
        obtain ⟨r0, r9, z0, z1⟩ := box_at hres
        have HBX : Hid (Below w.heap.size w wq) := HBq.out
        go_wp2
        refine bodyPost_ret (v := .tuple #[BoxV none none 0 0 0 0, .int .i64 3]) (res_cell_tmp Tryz.results27 _ _ (w.heap.size + 1) 66 _ (0, 0) _ rfl (put2 hres _ _) Tryz.underlying66 rfl (by rw [info_box]; rfl)) rfl ?_
        have hv := HVE.out.symm.trans HR.out
        subst hv
        exact ⟨_, _, rfl, OwnI.nil _ _ _, OwnI.nil _ _ _, .inl rfl, fun _ => ⟨rfl, rfl⟩, (HBX.out.setCell (p := ⟨w.heap.size + 1, 0, none⟩) (by show w.heap.size ≤ w.heap.size + 1; omega) _).setCell (p := ⟨w.heap.size + 1, 1, none⟩) (by show w.heap.size ≤ w.heap.size + 1; omega) _⟩
      · by_cases hik : c k ≤ lcZ (lo k) (hi k) (sd k)
        · have HTn : Hid (cinTo lo hi sd c (k + 1) = true) := by show _ = _; rw [cinTo, HT.out, decide_eq_true ⟨by omega, hik⟩]; rfl
          have hmc := mul_chunk (c := c k) (s := sd k) (L := lastZ (hi k) - lo k) (by omega) hik hfk.2.2.2.2.2.1
          have HLLk := Lib.hid (fun W => HLL.out (nm k) (lo k) (hi k) W)
          have HE1 : Hid (coreLo lo sd c k = lo k + c k * sd k) := rfl
          have HE2 : Hid (coreHi lo hi sd c k = min (lo k + c k * sd k + sd k - 1) (lastZ (hi k))) := rfl
          have hLC : lcZ (lo k) (hi k) (sd k) = (lastZ (hi k) - lo k) / sd k := rfl
          rw [hLC] at hik
          clear hLC
          generalize lastZ (hi k) = hl at *
          generalize nm k = sn at *
          generalize lo k = l9 at *
          generalize hi k = h9 at *
          generalize c k = z at *
          generalize sd k = q at *
          obtain ⟨f1, f2, f3, f4, f5, f6, f7, f8, f9, f10⟩ := hfk
          have r1 : decide (z < 0) = ltC z 0 := rfl
          have a1 : ltC z 0 = false := decide_eq_false (by omega)
          have hq0 : IntKind.i64.wrap ((IntKind.i64.wrap (hl - l9)).tdiv q) = (hl - l9) / q := quo_i (by omega) (by omega) (by omega)
          have r2 : decide ((hl - l9) / q < z) = false := decide_eq_false (by omega)
          have hqw : IntKind.i64.wrap (hl - l9) = hl - l9 := w64 (by omega) (by omega)
          rw [hqw] at hq0
          have hw1 : IntKind.i64.wrap (z * q) = z * q := w64 (by omega) (by omega)
          have hw2 : IntKind.i64.wrap (l9 + z * q) = l9 + z * q := w64 (by omega) (by omega)
          have hy0 : (q == 0) = false := by rw [beq_eq_false_iff_ne]; omega
          have hy1 : ¬ q = 0 := by omega
          go_wp2_with fail
          have B0d : Below wr.heap.size wr wr.drew := Below.drew (Below.refl _ _)
          go_region_held3 (fun W => (W.cell? ⟨bx, ox + k, none⟩ = some (.int .i64 z) ∧ W.cell? ⟨bd, od + k * 3, none⟩ = some (.string sn) ∧ W.cell? ⟨bd, od + k * 3 + 1, none⟩ = some (.int .i64 l9) ∧ W.cell? ⟨bd, od + k * 3 + 2, none⟩ = some (.int .i64 h9)) ∧ W.cell? ⟨w.heap.size, 0, none⟩ = some (.slice (some ⟨bs, os, none⟩) o sc) ∧ W.cell? ⟨bs, os + k, none⟩ = some (.int .i64 q))
            (first | exact HCC.out _ (st HBw.out B1) (HB0w.out.trans (B1.mono (by have := HB0w.out.size; omega))) | exact HCC.out _ (st HBw.out B0d) (HB0w.out.trans (B0d.mono (by have := HB0w.out.size; omega))) | exact HCC.out _ HBw.out HB0w.out)
            (first
              | (go_at_call 73; refine (HLLk.out _).mono ?_; rintro e w3 ⟨rfl, hb3⟩; have B1 : Below wr.heap.size wr w3 := st B0d hb3))
          have HB3 := Lib.hid (st HBw.out B1)
          have HB03 : Hid (Below (w.heap.size + 2) W0 w3) := HB0w.out.trans (B1.mono (by have := HB0w.out.size; omega))
          have hst3 : InSt2 w W0 ob w3 v1 v2 k k (coreLo lo sd c) (coreHi lo hi sd c) := InSt2.below ⟨hbx, HO1.out, HO2.out, HNe.out, HBw.out, HB0w.out⟩ hz1 B1
          have HST := Lib.hid hst3
          clear hst3 y0 c0 c1 c2 s0 s1 hbx HO1 HO2 HNe HBw HB0w B0d B1
          obtain ⟨⟨y0, c0, c1, c2⟩, s0, s1⟩ := HCC.out w3 HB3.out HB03.out
          go_wp2_with fail
          go_still_tail 16, (by kernel_rfl)
          change wpList _ _ _ _ _ w3.drew
          have HST4 : Hid (InSt2 w W0 ob w3.drew v1 v2 k k (coreLo lo sd c) (coreHi lo hi sd c)) := HST.out.below hz1 (Below.drew (Below.refl _ _))
          have HB4 : Hid (Below w.heap.size w w3.drew) := HB3.out.drew
          have HB04 : Hid (Below (w.heap.size + 2) W0 w3.drew) := HB03.out.drew
          clear y0 c0 c1 c2 s0 s1 HST HB3 HB03
          generalize w3.drew = w4 at *
          have hb2 : l9 + z * q ≤ 1073741824 ∧ -1073741824 ≤ l9 + z * q := by omega
          clear hw1 hw2 hq0 hqw r1 r2 a1 hik hneg hy0 hy1
          obtain ⟨X, hX⟩ : ∃ X, l9 + z * q = X := ⟨_, rfl⟩
          rw [hX] at HE1 HE2 hb2 ⊢
          clear hX hmc
          obtain ⟨t0, t1, u0, u1⟩ := box_gen HST4.out.1
          have hob4 : ob + 1 ≤ w4.heap.size := (Array.getElem?_eq_some_iff.1 HST4.out.1).1
          have hk9 : k ≤ 1000000 := by omega
          go_wp2_with (first
            | (at_builtin; refine wpList_appI rfl _ _ rfl w4 X (ob + 1) v1 k (coreLo lo sd c) rfl w4.heap.size rfl rfl HST4.out.2.1 hk9 hob4 ?_; intro v1' w8 ho8 hg8 hat8; obtain ⟨P1, q1, rfl, -⟩ := ho8.ints; obtain ⟨hbx8, hst8⟩ := HST4.out.app1 hz1 ho8 hg8 hat8; obtain ⟨t0, t1, u0, u1⟩ := box_gen hbx8; obtain ⟨s0, s1, y0, y1⟩ := box_gen hst8.1; have hob9 : ob + 1 ≤ (w8.setCell ⟨ob, 0, none⟩ (.slice P1 (k + 1) q1)).heap.size := (Array.getElem?_eq_some_iff.1 hst8.1).1; have HST9 := Lib.hid hst8; clear hst8 hbx8 ho8 hg8 hat8))
          generalize hw9 : w8.setCell ⟨ob, 0, none⟩ (.slice P1 (k + 1) q1) = w9 at *
          clear t0 t1 u0 u1 s0 y0 y1 hw9
          have hS9 := HST9.out.2.2.2.2.1
          have hS09 := HST9.out.2.2.2.2.2
          have HB9 := Lib.hid hS9
          have HB09 := Lib.hid hS09
          clear hS9 hS09
          have HKK : Hid (∀ W, Below w9.heap.size w9 W → (W.cell? ⟨bd, od + k * 3, none⟩ = some (.string sn) ∧ W.cell? ⟨bd, od + k * 3 + 1, none⟩ = some (.int .i64 l9) ∧ W.cell? ⟨bd, od + k * 3 + 2, none⟩ = some (.int .i64 h9)) ∧ W.cell? ⟨w.heap.size, 0, none⟩ = some (.slice (some ⟨bs, os, none⟩) o sc) ∧ W.cell? ⟨bs, os + k, none⟩ = some (.int .i64 q) ∧ W.cell? ⟨ob, 1, none⟩ = some v2) := fun W hW => by
            obtain ⟨⟨-, c0, c1, c2⟩, s0, s1⟩ := HCC.out W (st HB9.out hW) (HB09.out.trans (hW.mono (by omega)))
            exact ⟨⟨c0, c1, c2⟩, s0, s1, (box_gen ((hW.block ob (by omega)).trans HST9.out.1)).2.1⟩
          obtain ⟨⟨c0, c1, c2⟩, s0, s1, t1⟩ := HKK.out w9 (Below.refl _ _)
          have hp1 : IntKind.i64.wrap (X + q) = X + q := w64 (by omega) (by omega)
          have hp2 : IntKind.i64.wrap (X + q - 1) = X + q - 1 := w64 (by omega) (by omega)
          have hxq : -9223372036854775808 ≤ X + q ∧ X + q ≤ 9223372036854775807 := by omega
          have hxq1 : -9223372036854775808 ≤ X + q - 1 ∧ X + q - 1 ≤ 9223372036854775807 := by omega
          go_wp2_with fail
          rename_i K2 hK2
          refine wp_region_TK (n1 := 17) (T := TL [isW (.pointer (some ⟨ob, 1, none⟩)), isW v2, isW (.int .i64 X), isW (.pointer (some ⟨w.heap.size, 0, none⟩)), isW (.slice (some ⟨bs, os, none⟩) o sc), isW (.int .i64 (k : Nat)), isW (.pointer (some ⟨bs, os + k, none⟩)), isW (.int .i64 q), isW (.int .i64 (X + q)), isW (.int .i64 (X + q - 1)), isW (.slice (some ⟨bd, od, none⟩) o cap), isW (.int .i64 (k : Nat)), isW (.pointer (some ⟨bd, od + k * 3, none⟩)), isW (DimV sn l9 h9), isW (.int .i64 hl), isW (.int .i64 (min (X + q - 1) hl)), OneI (min (X + q - 1) hl) w9.heap.size, (fun _ _ => True), (fun _ _ => True), (fun _ _ => True)]) (by kernel_rfl) (by decide) (by kernel_rfl) (by kernel_rfl) ?step ?tail
          case step =>
            intro listed aa W ix HL hi9 hilt
            have dl := HL.dl (l := [some 83, some 84, some 85, some 86, some 87, some 88, some 89, some 90, some 91, some 92, some 93, some 94, some 95, some 96, some 97, some 98, some 99, some 100, some 101, none]) rfl
            have ap := apart_of dl (by decide)
            obtain ⟨⟨q1, q2, q3⟩, q4, q5, q6⟩ := HKK.out W HL.below
            have hBW := HL.below.size
            have mono : ∀ p' ∈ [isW (.pointer (some ⟨ob, 1, none⟩)), isW v2, isW (.int .i64 X), isW (.pointer (some ⟨w.heap.size, 0, none⟩)), isW (.slice (some ⟨bs, os, none⟩) o sc), isW (.int .i64 (k : Nat)), isW (.pointer (some ⟨bs, os + k, none⟩)), isW (.int .i64 q), isW (.int .i64 (X + q)), isW (.int .i64 (X + q - 1)), isW (.slice (some ⟨bd, od, none⟩) o cap), isW (.int .i64 (k : Nat)), isW (.pointer (some ⟨bd, od + k * 3, none⟩)), isW (DimV sn l9 h9), isW (.int .i64 hl), isW (.int .i64 (min (X + q - 1) hl)), OneI (min (X + q - 1) hl) w9.heap.size, (fun _ _ => True), (fun _ _ => True), (fun _ _ => True)], Mono p' := by
              intro p' hp
              simp only [List.mem_cons, List.not_mem_nil, or_false] at hp
              rcases hp with rfl | rfl | rfl | rfl | rfl | rfl | rfl | rfl | rfl | rfl | rfl | rfl | rfl | rfl | rfl | rfl | rfl | rfl | rfl | rfl
              · exact isW_mono _
              · exact isW_mono _
              · exact isW_mono _
              · exact isW_mono _
              · exact isW_mono _
              · exact isW_mono _
              · exact isW_mono _
              · exact isW_mono _
              · exact isW_mono _
              · exact isW_mono _
              · exact isW_mono _
              · exact isW_mono _
              · exact isW_mono _
              · exact isW_mono _
              · exact isW_mono _
              · exact isW_mono _
              · exact oneI_mono _ _
              · exact fun _ _ _ h _ => h
              · exact fun _ _ _ h _ => h
              · exact fun _ _ _ h _ => h
            rcases (by omega : ix = 0 ∨ ix = 1 ∨ ix = 2 ∨ ix = 3 ∨ ix = 4 ∨ ix = 5 ∨ ix = 6 ∨ ix = 7 ∨ ix = 8 ∨ ix = 9 ∨ ix = 10 ∨ ix = 11 ∨ ix = 12 ∨ ix = 13 ∨ ix = 14 ∨ ix = 15 ∨ ix = 16) with rfl | rfl | rfl | rfl | rfl | rfl | rfl | rfl | rfl | rfl | rfl | rfl | rfl | rfl | rfl | rfl | rfl
            · exact wpOp_of rfl (.inl rfl) (op_fB (by decide) rfl rfl (HL.old 9 (old_of' dl 9 (by decide))) (HL.over mono ap rfl rfl (by simp) (Below.refl _ _) rfl))
            · exact wpOp_of rfl (.inl rfl) (op_lsl (.inl rfl) rfl rfl (HL.got' hi9 (j := 0) (t := 83) rfl (by kernel_rfl) rfl rfl) q6 (HL.over mono ap rfl rfl (by simp) (Below.refl _ _) rfl))
            · exact wpOp_of rfl (.inl rfl) (op_mv rfl rfl (HL.over mono ap rfl rfl (by simp) (Below.refl _ _) (HL.old 11 (old_of' dl 11 (by decide)))))
            · exact wpOp_of rfl (.inl rfl) (op_fLy rfl rfl (HL.old 4 (old_of' dl 4 (by decide))) (HL.over mono ap rfl rfl (by simp) (Below.refl _ _) rfl))
            · exact wpOp_of rfl (.inl rfl) (op_lsl (.inl rfl) rfl rfl (HL.got' hi9 (j := 3) (t := 86) rfl (by kernel_rfl) rfl rfl) q4 (HL.over mono ap rfl rfl (by simp) (Below.refl _ _) rfl))
            · exact wpOp_of rfl (.inl rfl) (op_mv rfl rfl (HL.over mono ap rfl rfl (by simp) (Below.refl _ _) (HL.old 10 (old_of' dl 10 (by decide)))))
            · exact wpOp_of rfl (.inl rfl) (op_ixI rfl rfl (HL.got' hi9 (j := 4) (t := 87) rfl (by kernel_rfl) rfl rfl) (HL.got' hi9 (j := 5) (t := 88) rfl (by kernel_rfl) rfl rfl) hlt (HL.over mono ap rfl rfl (by simp) (Below.refl _ _) rfl))
            · exact wpOp_of rfl (.inl rfl) (op_ldI rfl rfl (HL.got' hi9 (j := 6) (t := 89) rfl (by kernel_rfl) rfl rfl) q5 (HL.over mono ap rfl rfl (by simp) (Below.refl _ _) rfl))
            · exact wpOp_of rfl (.inl rfl) (op_adC rfl rfl (HL.got' hi9 (j := 2) (t := 85) rfl (by kernel_rfl) rfl rfl) (HL.got' hi9 (j := 7) (t := 90) rfl (by kernel_rfl) rfl rfl) hxq (HL.over mono ap rfl rfl (by simp) (Below.refl _ _) rfl))
            · exact wpOp_of rfl (.inl rfl) (op_s1C rfl rfl (HL.got' hi9 (j := 8) (t := 91) rfl (by kernel_rfl) rfl rfl) hxq1 (HL.over mono ap rfl rfl (by simp) (Below.refl _ _) rfl))
            · exact wpOp_of rfl (.inl rfl) (op_mv rfl rfl (HL.over mono ap rfl rfl (by simp) (Below.refl _ _) (HL.old 0 (old_of' dl 0 (by decide)))))
            · exact wpOp_of rfl (.inl rfl) (op_mv rfl rfl (HL.over mono ap rfl rfl (by simp) (Below.refl _ _) (HL.old 10 (old_of' dl 10 (by decide)))))
            · exact wpOp_of rfl (.inl rfl) (op_ixD rfl rfl (HL.got' hi9 (j := 10) (t := 93) rfl (by kernel_rfl) rfl rfl) (HL.got' hi9 (j := 11) (t := 94) rfl (by kernel_rfl) rfl rfl) hlt (HL.over mono ap rfl rfl (by simp) (Below.refl _ _) rfl))
            · exact wpOp_of rfl (.inl rfl) (op_ldD rfl rfl (HL.got' hi9 (j := 12) (t := 95) rfl (by kernel_rfl) rfl rfl) q1 q2 q3 (HL.over mono ap rfl rfl (by simp) (Below.refl _ _) rfl))
            · exact wpOp_of rfl (.inl rfl) (op_T1 rfl rfl (HL.got' hi9 (j := 13) (t := 96) rfl (by kernel_rfl) rfl rfl) (fun args w => by kernel_rfl) ((HLLk.out W).mono fun e w' h => ⟨_, h.1, HL.over mono ap rfl rfl (by simp) h.2 rfl⟩))
            · exact wpOp_of rfl (.inl rfl) (op_mn rfl rfl (HL.got' hi9 (j := 9) (t := 92) rfl (by kernel_rfl) rfl rfl) (HL.got' hi9 (j := 14) (t := 97) rfl (by kernel_rfl) rfl rfl)  (HL.over mono ap rfl rfl (by simp) (Below.refl _ _) rfl))
            · exact wpOp_of rfl (.inl rfl) (op_bsI rfl rfl (HL.got' hi9 (j := 15) (t := 98) rfl (by kernel_rfl) rfl rfl) (HL.over mono ap rfl rfl (by simp) (bel_nw W _) ⟨_, rfl, hBW, heap_alloc_new W _⟩))
          case tail =>
            intro listed aa W HL hall
            have dl := HL.dl (l := [some 83, some 84, some 85, some 86, some 87, some 88, some 89, some 90, some 91, some 92, some 93, some 94, some 95, some 96, some 97, some 98, some 99, some 100, some 101, none]) rfl
            have s0 : slot aa 0 = Value.slice (some ⟨bd, od, none⟩) o cap := HL.old 0 (old_of' dl 0 (by decide))
            have s1 : slot aa 1 = LayV (some ⟨bs, os, none⟩) o sc O o oc ord tile form codec := HL.old 1 (old_of' dl 1 (by decide))
            have s2 : slot aa 2 = Value.slice (some ⟨bx, ox, none⟩) o mc := HL.old 2 (old_of' dl 2 (by decide))
            have s3 : slot aa 3 = undef := HL.old 3 (old_of' dl 3 (by decide))
            have s4 : slot aa 4 = Value.pointer (some ⟨w.heap.size, 0, none⟩) := HL.old 4 (old_of' dl 4 (by decide))
            have s5 : slot aa 5 = undef := HL.old 5 (old_of' dl 5 (by decide))
            have s6 : slot aa 6 = Value.pointer (some ⟨w.heap.size + 1, 0, none⟩) := HL.old 6 (old_of' dl 6 (by decide))
            have s7 : slot aa 7 = u7 := HL.old 7 (old_of' dl 7 (by decide))
            have s8 : slot aa 8 = Value.int IntKind.i64 0 := HL.old 8 (old_of' dl 8 (by decide))
            have s9 : slot aa 9 = Value.pointer (some ⟨ob, 0, none⟩) := HL.old 9 (old_of' dl 9 (by decide))
            have s10 : slot aa 10 = Value.int IntKind.i64 ↑k := HL.old 10 (old_of' dl 10 (by decide))
            have s11 : slot aa 11 = Value.int IntKind.i64 X := HL.old 11 (old_of' dl 11 (by decide))
            have s12 : slot aa 12 = Value.slice (some ⟨bd, od, none⟩) o cap := HL.old 12 (old_of' dl 12 (by decide))
            have s13 : slot aa 13 = Value.agg #[Value.slice (some ⟨bs, os, none⟩) o sc, Value.slice O o oc, Value.int IntKind.i64 ord, Value.int IntKind.i64 tile, Value.int IntKind.i64 form, Value.int IntKind.i64 codec] := HL.old 13 (old_of' dl 13 (by decide))
            have s14 : slot aa 14 = Value.int IntKind.i64 0 := HL.old 14 (old_of' dl 14 (by decide))
            have s15 : slot aa 15 = Value.int IntKind.i64 0 := HL.old 15 (old_of' dl 15 (by decide))
            have s16 : slot aa 16 = Value.bool false := HL.old 16 (old_of' dl 16 (by decide))
            have s17 : slot aa 17 = undef := HL.old 17 (old_of' dl 17 (by decide))
            have s18 : slot aa 18 = undef := HL.old 18 (old_of' dl 18 (by decide))
            have s19 : slot aa 19 = Value.slice (some ⟨bx, ox, none⟩) o mc := HL.old 19 (old_of' dl 19 (by decide))
            have s20 : slot aa 20 = Value.int IntKind.i64 ↑o := HL.old 20 (old_of' dl 20 (by decide))
            have s21 : slot aa 21 = Value.slice (some ⟨bd, od, none⟩) o cap := HL.old 21 (old_of' dl 21 (by decide))
            have s22 : slot aa 22 = Value.int IntKind.i64 ↑o := HL.old 22 (old_of' dl 22 (by decide))
            have s23 : slot aa 23 = Value.bool false := HL.old 23 (old_of' dl 23 (by decide))
            have s24 : slot aa 24 = undef := HL.old 24 (old_of' dl 24 (by decide))
            have s25 : slot aa 25 = Value.int IntKind.i64 ↑k := HL.old 25 (old_of' dl 25 (by decide))
            have s26 : slot aa 26 = Value.slice (some ⟨bd, od, none⟩) o cap := HL.old 26 (old_of' dl 26 (by decide))
            have s27 : slot aa 27 = Value.int IntKind.i64 ↑o := HL.old 27 (old_of' dl 27 (by decide))
            have s28 : slot aa 28 = Value.bool true := HL.old 28 (old_of' dl 28 (by decide))
            have s102 : slot aa 102 = undef := HL.old 102 (old_of' dl 102 (by decide))
            have e0 := HL.got 1 _ 84 rfl rfl (hall 1 (by decide))
            obtain ⟨b, e1, f1, f2⟩ := HL.got 16 _ 99 rfl rfl (hall 16 (by decide))
            obtain ⟨fr, hf, rfl⟩ := actlitf 103 aa (HL.frame.trans (by simp)) (HL.defers.trans rfl)
            rw [show List.range 103 = [0, 1, 2, 3, 4, 5, 6, 7, 8, 9, 10, 11, 12, 13, 14, 15, 16, 17, 18, 19, 20, 21, 22, 23, 24, 25, 26, 27, 28, 29, 30, 31, 32, 33, 34, 35, 36, 37, 38, 39, 40, 41, 42, 43, 44, 45, 46, 47, 48, 49, 50, 51, 52, 53, 54, 55, 56, 57, 58, 59, 60, 61, 62, 63, 64, 65, 66, 67, 68, 69, 70, 71, 72, 73, 74, 75, 76, 77, 78, 79, 80, 81, 82, 83, 84, 85, 86, 87, 88, 89, 90, 91, 92, 93, 94, 95, 96, 97, 98, 99, 100, 101, 102] from rfl]
            simp only [List.map_cons, List.map_nil]
            have q0 := (hf 0).symm.trans s0
            have q1 := (hf 1).symm.trans s1
            have q2 := (hf 2).symm.trans s2
            have q3 := (hf 3).symm.trans s3
            have q4 := (hf 4).symm.trans s4
            have q5 := (hf 5).symm.trans s5
            have q6 := (hf 6).symm.trans s6
            have q7 := (hf 7).symm.trans s7
            have q8 := (hf 8).symm.trans s8
            have q9 := (hf 9).symm.trans s9
            have q10 := (hf 10).symm.trans s10
            have q11 := (hf 11).symm.trans s11
            have q12 := (hf 12).symm.trans s12
            have q13 := (hf 13).symm.trans s13
            have q14 := (hf 14).symm.trans s14
            have q15 := (hf 15).symm.trans s15
            have q16 := (hf 16).symm.trans s16
            have q17 := (hf 17).symm.trans s17
            have q18 := (hf 18).symm.trans s18
            have q19 := (hf 19).symm.trans s19
            have q20 := (hf 20).symm.trans s20
            have q21 := (hf 21).symm.trans s21
            have q22 := (hf 22).symm.trans s22
            have q23 := (hf 23).symm.trans s23
            have q24 := (hf 24).symm.trans s24
            have q25 := (hf 25).symm.trans s25
            have q26 := (hf 26).symm.trans s26
            have q27 := (hf 27).symm.trans s27
            have q28 := (hf 28).symm.trans s28
            have q102 := (hf 102).symm.trans s102
            have q84 : fr 84 = v2 := (hf 84).symm.trans e0
            have q99 : fr 99 = .slice (some ⟨b, 0, none⟩) 1 1 := (hf 99).symm.trans e1
            rw [q0, q1, q2, q3, q4, q5, q6, q7, q8, q9, q10, q11, q12, q13, q14, q15, q16, q17, q18, q19, q20, q21, q22, q23, q24, q25, q26, q27, q28, q102, q84, q99]
            clear s0 s1 s2 s3 s4 s5 s6 s7 s8 s9 s10 s11 s12 s13 s14 s15 s16 s17 s18 s19 s20 s21 s22 s23 s24 s25 s26 s27 s28 s102 q0 q1 q2 q3 q4 q5 q6 q7 q8 q9 q10 q11 q12 q13 q14 q15 q16 q17 q18 q19 q20 q21 q22 q23 q24 q25 q26 q27 q28 q102 q84 q99
            have hb0 := HL.below
            have hSW := HST9.out.below hz1 hb0
            have hobW : ob + 1 ≤ W.heap.size := (Array.getElem?_eq_some_iff.1 hSW.1).1
            clear hf dl hall HL e0 e1
            refine wpList_appJ rfl (.tmp 84) (.tmp 99) rfl W (min (X + q - 1) hl) (ob + 1) v2 k _ rfl b rfl f2 hSW.2.2.1 hk9 hobW ?_
            intro v2' w10 ho10 hg10 hat10
            obtain ⟨P2, q2, rfl, -⟩ := ho10.ints
            obtain ⟨hbx10, hst10⟩ := hSW.app2 hz1 ho10 hg10 hat10
            obtain ⟨t0', t1', u0', u1'⟩ := box_gen hbx10
            have HST11 := Lib.hid hst10
            clear hst10 hbx10 ho10 hg10 hat10 hSW
            go_wp2_with fail
            go_roundw
            case rel =>
              refine ⟨k + 1, _, _, by omega, by go_num, HST11.out.1, HST11.out.2.1.congr fun j hj => ?_, HST11.out.2.2.1.congr fun j hj => ?_, HST11.out.2.2.2.1, HTn.out, HST11.out.2.2.2.2.1, HST11.out.2.2.2.2.2⟩
              · unfold updZ
                by_cases e : j = k
                · rw [if_pos e, e, HE1.out]
                · rw [if_neg e]
              · unfold updZ
                by_cases e : j = k
                · rw [if_pos e, e, HE2.out]
                · rw [if_neg e]
            case measure => simp [intOf]; omega
        · have HR : Hid (cinTo lo hi sd c o = false) := cinTo_le (k := k + 1) (by rw [cinTo, decide_eq_false (by omega), Bool.and_false]) (by omega)
          have HLLk := Lib.hid (fun W => HLL.out (nm k) (lo k) (hi k) W)
          have hLC : lcZ (lo k) (hi k) (sd k) = (lastZ (hi k) - lo k) / sd k := rfl
          rw [hLC] at hik
          clear hLC
          generalize lastZ (hi k) = hl at *
          generalize nm k = sn at *
          generalize lo k = l9 at *
          generalize hi k = h9 at *
          generalize c k = z at *
          generalize sd k = q at *
          obtain ⟨f1, f2, f3, f4, f5, f6, f7, f8, f9, f10⟩ := hfk
          have r1 : decide (z < 0) = ltC z 0 := rfl
          have a1 : ltC z 0 = false := decide_eq_false (by omega)
          have hq0 : IntKind.i64.wrap ((IntKind.i64.wrap (hl - l9)).tdiv q) = (hl - l9) / q := quo_i (by omega) (by omega) (by omega)
          have r2 : decide ((hl - l9) / q < z) = true := decide_eq_true (by omega)
          have hqw : IntKind.i64.wrap (hl - l9) = hl - l9 := w64 (by omega) (by omega)
          rw [hqw] at hq0
          have hy0 : (q == 0) = false := by rw [beq_eq_false_iff_ne]; omega
          have hy1 : ¬ q = 0 := by omega
          go_wp2_with fail
          have B0d : Below wr.heap.size wr wr.drew := Below.drew (Below.refl _ _)
          go_region_held3 (fun W => (W.cell? ⟨bx, ox + k, none⟩ = some (.int .i64 z) ∧ W.cell? ⟨bd, od + k * 3, none⟩ = some (.string sn) ∧ W.cell? ⟨bd, od + k * 3 + 1, none⟩ = some (.int .i64 l9) ∧ W.cell? ⟨bd, od + k * 3 + 2, none⟩ = some (.int .i64 h9)) ∧ W.cell? ⟨w.heap.size, 0, none⟩ = some (.slice (some ⟨bs, os, none⟩) o sc) ∧ W.cell? ⟨bs, os + k, none⟩ = some (.int .i64 q))
            (first | exact HCC.out _ (st HBw.out B1) (HB0w.out.trans (B1.mono (by have := HB0w.out.size; omega))) | exact HCC.out _ (st HBw.out B0d) (HB0w.out.trans (B0d.mono (by have := HB0w.out.size; omega))) | exact HCC.out _ HBw.out HB0w.out)
            (first
              | (go_at_call 73; refine (HLLk.out _).mono ?_; rintro e w3 ⟨rfl, hb3⟩; have B1 : Below wr.heap.size wr w3 := st B0d hb3))
          have HB3 := Lib.hid (st HBw.out B1)
          have HB03 : Hid (Below (w.heap.size + 2) W0 w3) := HB0w.out.trans (B1.mono (by have := HB0w.out.size; omega))
          clear y0 c0 c1 c2 s0 s1 hbx HO1 HO2 HNe HBw HB0w B0d B1
          have hres := (KB2.out w3 HB03.out).2
          obtain ⟨r0, r9, z0, z1⟩ := box_at hres
          have HBX : Hid (Below w.heap.size w w3) := HB3.out
          go_wp2
          refine bodyPost_ret (v := .tuple #[BoxV none none 0 0 0 0, .int .i64 3]) (res_cell_tmp Tryz.results27 _ _ (w.heap.size + 1) 66 _ (0, 0) _ rfl (put2 hres _ _) Tryz.underlying66 rfl (by rw [info_box]; rfl)) rfl ?_
          have hv := HVE.out.symm.trans HR.out
          subst hv
          exact ⟨_, _, rfl, OwnI.nil _ _ _, OwnI.nil _ _ _, .inl rfl, fun _ => ⟨rfl, rfl⟩, (HBX.out.setCell (p := ⟨w.heap.size + 1, 0, none⟩) (by show w.heap.size ≤ w.heap.size + 1; omega) _).setCell (p := ⟨w.heap.size + 1, 1, none⟩) (by show w.heap.size ≤ w.heap.size + 1; omega) _⟩
    · obtain rfl : k = o := by omega
      have hres := (KB2.out wr HB0w.out).2
      obtain ⟨r0, r9, z0, z1⟩ := box_at hres
      obtain ⟨P1, cc, rfl, -⟩ := HO1.out.ints
      obtain ⟨P2, dd, rfl, -⟩ := HO2.out.ints
      obtain ⟨t0, t1, u0, u1⟩ := box_gen hbx
      have q1 := (HO1.out.kept (grown_set wr (w.heap.size + 1) 0 (.slice P1 k cc)) (HO1.out.ne (by omega)))
      have q2 := (HO2.out.kept (grown_set wr (w.heap.size + 1) 0 (.slice P1 k cc)) (HO2.out.ne (by omega)))
      have Q1 := Lib.hid ((q1.kept (grown_set _ (w.heap.size + 1) 1 (.slice P2 k dd)) (q1.ne (by omega))).base (show w.heap.size ≤ ob + 1 by omega))
      have Q2 := Lib.hid ((q2.kept (grown_set _ (w.heap.size + 1) 1 (.slice P2 k dd)) (q2.ne (by omega))).base (show w.heap.size ≤ ob + 1 by omega))
      clear q1 q2
      go_wp2
      refine bodyPost_ret (v := .tuple #[.agg #[.slice P1 k cc, .slice P2 k dd], .int .i64 0]) (res_cell_tmp Tryz.results27 _ _ (w.heap.size + 1) 66 _ (0, 0) _ rfl (put2 hres _ _) Tryz.underlying66 rfl (by rw [info_box]; rfl)) rfl ?_
      have hv := HVE.out.symm.trans HT.out
      subst hv
      exact ⟨_, _, rfl, Q1.out, Q2.out, HNe.out, (fun h => by cases h), (HBw.out.setCell (p := ⟨w.heap.size + 1, 0, none⟩) (by show w.heap.size ≤ w.heap.size + 1; omega) _).setCell (p := ⟨w.heap.size + 1, 1, none⟩) (by show w.heap.size ≤ w.heap.size + 1; omega) _⟩
end Go.Proofs.YthmnmologmmeaaaGreatDoor
