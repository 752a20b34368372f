/- The reference's Wide, where there is no error. -/
import Derived.Test.YthmnmologmmeaaaGreatDoorZOwS
import Derived.Test.YthmnmologmmeaaaGreatDoorZSpI
namespace Go.Proofs.YthmnmologmmeaaaGreatDoor
open Go Go.RowKit Go.Deep

section
variable {ops : Array Oper} {Q : Exit → Act → World → Prop} {K : Act → World → Prop} {a : Act} {w : World}
set_option maxRecDepth 100000 in
theorem op_fL1 {o : Oper} {d t b : Nat} (ho : o.op = .fieldAddr 54 (.tmp t) 1) (hd : o.dst = some d) (hs : slot a t = .pointer (some ⟨b, 0, none⟩)) (h : K (putSlot a d (.pointer (some ⟨b, 1, none⟩))) w) : o.wp Tryz.prog a w K Q := by
  obtain ⟨op, dst, ty, pos, after, guard⟩ := o
  dsimp only at ho hd
  subst ho hd
  have hs' : a.tmps[t]?.getD undef = .pointer (some ⟨b, 0, none⟩) := hs
  unfold Oper.wp
  go_simp
  exact h
end
theorem OwnI.own' {w : World} {B n g c : Nat} {f : Nat → Int} (h : OwnI w B (.slice (some ⟨g, 0, none⟩) n c) n f) (hn : 0 < n) : (∀ k, k < n → w.cell? ⟨g, k, none⟩ = some (.int .i64 (f k))) ∧ ∀ k, w.frozen? ⟨g, k, none⟩ = false := by
  obtain ⟨g', c', e, _, _, h1, h2⟩ := h.own hn
  cases e
  exact ⟨h1, h2⟩
/-- The first k of f, the others of g. -/
def mixZ (f g : Nat → Int) (k j : Nat) : Int := if j < k then f j else g j
set_option maxRecDepth 100000 in
set_option maxHeartbeats 8000000 in
theorem r_Wide (w : World) (A S O XA : Option Addr) (n cap s sc o oc m mc : Nat) (nm : Nat → ByteArray) (lo hi sd ov c : Nat → Int) (ord tile form codec : Int) (hd : DimsAt w A n nm lo hi) (hs : IntsAt w S s sd) (ho : IntsAt w O o ov) (hx : IntsAt w XA m c) (hns : ∀ k, k < n → (nm k).size ≤ 9223372036854775807) (hs1 : s ≤ 1000) (ho1 : o ≤ 1000) (hn1 : n ≤ 1000) (hm1 : m ≤ 1000)
    (he : coreE nm lo hi n sd ov s o ord tile form codec c m = 0) :
    Calls Tryz.prog 29 #[.slice A n cap, LayV S s sc O o oc ord tile form codec, .slice XA m mc] w fun e w' => ∃ P Q c1 c2, e = .returned (.tuple #[BoxW P Q n c1 n c2, .int .i64 0]) ∧ IntsAt w' P n (wideLo lo sd ov c) ∧ IntsAt w' Q n (wideHi lo hi sd ov c) ∧ Below w.heap.size w w' := by
  have KB := Lib.hid (lay_box w S O s sc o oc ord tile form codec)
  have HB : Hid (Below w.heap.size w (w.alloc (.cells #[.slice S s sc, .slice O o oc, .int .i64 ord, .int .i64 tile, .int .i64 form, .int .i64 codec] 54))) := (Below.refl _ _).alloc (Nat.le_refl _) _
  have HC : Hid (∀ W, Below w.heap.size w W → Calls Tryz.prog 27 #[.slice A n cap, LayV S s sc O o oc ord tile form codec, .slice XA m mc] W fun e w' => ∃ P Q c1 c2, e = .returned (.tuple #[BoxW P Q n c1 n c2, .int .i64 0]) ∧ OwnI w' W.heap.size (.slice P n c1) n (coreLo lo sd c) ∧ OwnI w' W.heap.size (.slice Q n c2) n (coreHi lo hi sd c) ∧ ((Value.slice P n c1).ownBlock = none ∨ (Value.slice P n c1).ownBlock ≠ (Value.slice Q n c2).ownBlock) ∧ Below W.heap.size W w') := fun W hW => r_Core W A S O XA n cap s sc o oc m mc nm lo hi sd ov c ord tile form codec (hd.below hW) (hs.below hW) (ho.below hW) (hx.below hW) hns hs1 ho1 hn1 hm1 he
  have hz := core_zero he
  have HLL := Lib.hid r_Last
  obtain ⟨rfl, rfl, hn1', hn4, hf⟩ := lay_facts hz.1
  have HF := Lib.hid hf
  have hci := cinTo_ok hz.2.2
  have HCI := Lib.hid hci
  have HD := Lib.hid hd
  have HO := Lib.hid ho
  clear hd hs ho hx hns he hz hci hf
  go_enter Tryz.func29, Tryz.ntmps29
  go_wp2_with fail
  have hz0 : ((w.alloc (.cells #[.slice S o sc, .slice O o oc, .int .i64 ord, .int .i64 tile, .int .i64 form, .int .i64 codec] 54)).alloc (.cells #[.slice none 0 0, .slice none 0 0] 66)).heap.size = w.heap.size + 2 := by simp
  have KB2 : Hid (∀ W, Below (w.heap.size + 2) ((w.alloc (.cells #[.slice S o sc, .slice O o oc, .int .i64 ord, .int .i64 tile, .int .i64 form, .int .i64 codec] 54)).alloc (.cells #[.slice none 0 0, .slice none 0 0] 66)) W → W.cell? ⟨w.heap.size, 1, none⟩ = some (.slice O o oc) ∧ W.heap[w.heap.size + 1]? = some (.cells #[.slice none 0 0, .slice none 0 0] 66 (0, 0))) := fun W hW => by
    refine ⟨(KB.out W (Below.trans ((Below.refl _ _).alloc (Nat.le_refl _) _) (hW.mono (by simp)))).2.1, ?_⟩
    have h9 := heap_alloc_new (w.alloc (.cells #[.slice S o sc, .slice O o oc, .int .i64 ord, .int .i64 tile, .int .i64 form, .int .i64 codec] 54)) (.cells #[.slice none 0 0, .slice none 0 0] 66)
    rw [World.size_alloc] at h9
    exact (hW.block _ (by omega)).trans h9
  have HB2 : Hid (Below w.heap.size w ((w.alloc (.cells #[.slice S o sc, .slice O o oc, .int .i64 ord, .int .i64 tile, .int .i64 form, .int .i64 codec] 54)).alloc (.cells #[.slice none 0 0, .slice none 0 0] 66))) := HB.out.alloc (by simp) _
  clear KB HB
  generalize (w.alloc (.cells #[.slice S o sc, .slice O o oc, .int .i64 ord, .int .i64 tile, .int .i64 form, .int .i64 codec] 54)).alloc (.cells #[.slice none 0 0, .slice none 0 0] 66) = W0 at *
  refine (HC.out _ HB2.out).mono ?_
  rintro e w1 ⟨P, Q, c1, c2, rfl, hO1, hO2, hNe, hb1⟩
  have HB1 : Hid (Below w.heap.size w w1) := st HB2.out hb1
  have HB01 : Hid (Below (w.heap.size + 2) W0 w1) := by show Below _ _ _; rw [← hz0]; exact hb1
  have hz1 : w.heap.size + 2 ≤ w1.heap.size := by rw [← hz0]; exact hb1.size
  rw [hz0] at hO1 hO2
  obtain ⟨p, c1', e1, hp1, hp2, _, _⟩ := hO1.own (by omega)
  obtain ⟨q, c2', e2, hq1, hq2, _, _⟩ := hO2.own (by omega)
  injection e1 with e1 _ e1'
  injection e2 with e2 _ e2'
  subst e1 e1' e2 e2'
  have hpq : p ≠ q := fun e => by
    rcases hNe with h9 | h9
    · cases h9
    · exact h9 (by rw [e]; rfl)
  have HO1 := Lib.hid hO1
  have HO2 := Lib.hid hO2
  clear hb1 HC hO1 hO2 hNe
  obtain ⟨l0, hres⟩ := KB2.out w1 HB01.out
  have hbx2 : (w1.alloc (.cells #[.slice (some ⟨p, 0, none⟩) o c1, .slice (some ⟨q, 0, none⟩) o c2] 66)).heap[w1.heap.size]? = some (.cells #[.slice (some ⟨p, 0, none⟩) o c1, .slice (some ⟨q, 0, none⟩) o c2] 66 (0, 0)) := heap_alloc_new _ _
  have HB3 : Hid (Below w.heap.size w (w1.alloc (.cells #[.slice (some ⟨p, 0, none⟩) o c1, .slice (some ⟨q, 0, none⟩) o c2] 66))) := HB1.out.alloc (by omega) _
  have HB03 : Hid (Below (w.heap.size + 2) W0 (w1.alloc (.cells #[.slice (some ⟨p, 0, none⟩) o c1, .slice (some ⟨q, 0, none⟩) o c2] 66))) := HB01.out.alloc hz1 _
  have HP3 := Lib.hid (HO1.out.below (bel_nw w1 (.cells #[.slice (some ⟨p, 0, none⟩) o c1, .slice (some ⟨q, 0, none⟩) o c2] 66)))
  have HQ3 := Lib.hid (HO2.out.below (bel_nw w1 (.cells #[.slice (some ⟨p, 0, none⟩) o c1, .slice (some ⟨q, 0, none⟩) o c2] 66)))
  clear hres l0 HO1 HO2
  go_wp2_with fail
  generalize w1.alloc (.cells #[.slice (some ⟨p, 0, none⟩) o c1, .slice (some ⟨q, 0, none⟩) o c2] 66) = w3 at *
  obtain ⟨ob, hob⟩ : ∃ ob, w1.heap.size = ob := ⟨_, rfl⟩
  rw [hob] at hz1 hbx2 hp2 hq2 ⊢
  clear hob HB1 HB01
  go_loopw [10] (fun i wr => ∃ k : Nat, k ≤ o ∧ i = .int .i64 k ∧ wr.heap[ob]? = some (.cells #[.slice (some ⟨p, 0, none⟩) o c1, .slice (some ⟨q, 0, none⟩) o c2] 66 (0, 0)) ∧ Hid (OwnI wr (w.heap.size + 2) (.slice (some ⟨p, 0, none⟩) o c1) o (mixZ (wideLo lo sd ov c) (coreLo lo sd c) k)) ∧ Hid (OwnI wr (w.heap.size + 2) (.slice (some ⟨q, 0, none⟩) o c2) o (mixZ (wideHi lo hi sd ov c) (coreHi lo hi sd c) k)) ∧ Hid (Below w.heap.size w wr) ∧ Hid (Below (w.heap.size + 2) W0 wr)) (fun i _ => o - (intOf i).toNat)
  case atStart => exact ⟨0, Nat.zero_le _, rfl, hbx2, HP3.out, HQ3.out, HB3.out, HB03.out⟩
  case round =>
    obtain ⟨k, hk, rfl, hbx, HP, HQ, HBw, HB0w⟩ := hrel
    by_cases hlt : k < o
    · obtain ⟨bd, od, rfl, hbd, hc⟩ := HD.out (by omega)
      obtain ⟨d0, d1, d2⟩ := hc k hlt
      clear hc
      obtain ⟨bo, oo, rfl, hbo, hco⟩ := HO.out (by omega)
      have x0 := hco k hlt
      clear hco
      have HCC : Hid (∀ W, Below w.heap.size w W → Below (w.heap.size + 2) W0 W → (W.cell? ⟨bd, od + k * 3, none⟩ = some (.string (nm k)) ∧ W.cell? ⟨bd, od + k * 3 + 1, none⟩ = some (.int .i64 (lo k)) ∧ W.cell? ⟨bd, od + k * 3 + 2, none⟩ = some (.int .i64 (hi k))) ∧ W.cell? ⟨w.heap.size, 1, none⟩ = some (.slice (some ⟨bo, oo, none⟩) o oc) ∧ W.cell? ⟨bo, oo + k, none⟩ = some (.int .i64 (ov k))) := fun W hW hW0 =>
        ⟨⟨(hW.cell (p := ⟨bd, od + k * 3, none⟩) hbd).trans d0, (hW.cell (p := ⟨bd, od + k * 3 + 1, none⟩) hbd).trans d1, (hW.cell (p := ⟨bd, od + k * 3 + 2, none⟩) hbd).trans d2⟩, (KB2.out W hW0).1, (hW.cell (p := ⟨bo, oo + k, none⟩) hbo).trans x0⟩
      clear d0 d1 d2 hbd hbo x0
      have hfk := HF.out k hlt
      have hck := HCI.out k hlt
      obtain ⟨⟨c0, c1', c2'⟩, s0, s1⟩ := HCC.out wr HBw.out HB0w.out
      have hmc := mul_chunk (c := c k) (s := sd k) (L := lastZ (hi k) - lo k) hck.1 hck.2 hfk.2.2.2.2.2.1
      have HLLk := Lib.hid (fun W => HLL.out (nm k) (lo k) (hi k) W)
      have HE1 : Hid (wideLo lo sd ov c k = max (coreLo lo sd c k - ov k) (lo k)) := rfl
      have HE2 : Hid (wideHi lo hi sd ov c k = min (coreHi lo hi sd c k + ov k) (lastZ (hi k))) := rfl
      have hX : coreLo lo sd c k = lo k + c k * sd k := rfl
      have hY : coreHi lo hi sd c k = min (lo k + c k * sd k + sd k - 1) (lastZ (hi k)) := rfl
      obtain ⟨hpc, hpf⟩ := HP.out.own' (by omega)
      obtain ⟨hqc, hqf⟩ := HQ.out.own' (by omega)
      have y0 := hpc k hlt
      have y1 := hpf k
      have z0 := hqc k hlt
      have z1 := hqf k
      rw [mixZ, if_neg (Nat.lt_irrefl k)] at y0 z0
      generalize coreLo lo sd c k = X at *
      generalize hYe : coreHi lo hi sd c k = Y at *
      have HYE := Lib.hid hYe
      clear hYe
      generalize lastZ (hi k) = hl at *
      generalize nm k = sn at *
      generalize lo k = l9 at *
      generalize hi k = h9 at *
      generalize ov k = V at *
      obtain ⟨f1, f2, f3, f4, f5, f6, f7, f8, f9, f10⟩ := hfk
      have hXb : -2147483648 ≤ X ∧ X ≤ 2147483648 ∧ -4294967296 ≤ Y ∧ Y ≤ 1073741824 := by omega
      have hw1 : IntKind.i64.wrap (X - V) = X - V := w64 (by omega) (by omega)
      clear hX hY hmc hck hpc hpf hqc hqf
      obtain ⟨t0, t1, u0, u1⟩ := box_gen hbx
      go_wp2_with fail
      go_still_tail 20, (by kernel_rfl)
      change wpList _ _ _ _ _ wr.drew
      have hd := Below.drew (Below.refl wr.heap.size wr)
      have HP4 := Lib.hid (HP.out.below hd)
      have HQ4 := Lib.hid (HQ.out.below hd)
      have HB4 : Hid (Below w.heap.size w wr.drew) := st HBw.out hd
      have HB04 : Hid (Below (w.heap.size + 2) W0 wr.drew) := HB0w.out.trans (hd.mono (by have := HB0w.out.size; omega))
      have hbx4 : wr.drew.heap[ob]? = some (.cells #[.slice (some ⟨p, 0, none⟩) o c1, .slice (some ⟨q, 0, none⟩) o c2] 66 (0, 0)) := hbx
      have y04 : wr.drew.cell? ⟨p, k, none⟩ = some (.int .i64 X) := y0
      have y14 : wr.drew.frozen? ⟨p, k, none⟩ = false := y1
      clear hd HP HQ HBw HB0w hbx c0 c1' c2' s0 s1 t0 t1 u0 u1 y0 y1 z0 z1
      generalize wr.drew = w4 at *
      have hm1 : (if X - V < l9 then l9 else X - V) = max (X - V) l9 := by split <;> omega
      go_wp2_with fail
      first | rw [← HE1.out] | (rw [hm1]; rw [← HE1.out])
      generalize hW1 : wideLo lo sd ov c k = W1 at *
      have HW1 := Lib.hid hW1
      clear hW1
      have hobl : ob < w4.heap.size := (Array.getElem?_eq_some_iff.1 hbx4).1
      have HP5 := Lib.hid (HP4.out.set k hlt W1)
      have HQ5 := Lib.hid (HQ4.out.kept (grown_set w4 p k (.int .i64 W1)) (.inr (fun e => by injection e with e; exact hpq e.symm)))
      have HB5 : Hid (Below w.heap.size w (w4.setCell ⟨p, k, none⟩ (.int .i64 W1))) := HB4.out.setCell (by show w.heap.size ≤ p; omega) _
      have HB05 : Hid (Below (w.heap.size + 2) W0 (w4.setCell ⟨p, k, none⟩ (.int .i64 W1))) := HB04.out.setCell (by show w.heap.size + 2 ≤ p; omega) _
      have hbx5 : (w4.setCell ⟨p, k, none⟩ (.int .i64 W1)).heap[ob]? = some (.cells #[.slice (some ⟨p, 0, none⟩) o c1, .slice (some ⟨q, 0, none⟩) o c2] 66 (0, 0)) := (blk_setCell_other _ _ _ _ (by show ob ≠ p; omega)).trans hbx4
      have hob5 : ob < (w4.setCell ⟨p, k, none⟩ (.int .i64 W1)).heap.size := (Array.getElem?_eq_some_iff.1 hbx5).1
      clear HP4 HQ4 HB4 HB04 hbx4 y04 y14 hobl
      generalize w4.setCell ⟨p, k, none⟩ (.int .i64 W1) = w5 at *
      obtain ⟨hqc, hqf⟩ := HQ5.out.own' (by omega)
      have z0 := hqc k hlt
      rw [mixZ, if_neg (Nat.lt_irrefl k), HYE.out] at z0
      clear hqc hqf HYE
      have HKK : Hid (∀ W, Below w5.heap.size w5 W → (W.cell? ⟨bd, od + k * 3, none⟩ = some (.string sn) ∧ W.cell? ⟨bd, od + k * 3 + 1, none⟩ = some (.int .i64 l9) ∧ W.cell? ⟨bd, od + k * 3 + 2, none⟩ = some (.int .i64 h9)) ∧ (W.cell? ⟨w.heap.size, 1, none⟩ = some (.slice (some ⟨bo, oo, none⟩) o oc) ∧ W.cell? ⟨bo, oo + k, none⟩ = some (.int .i64 V)) ∧ W.cell? ⟨ob, 1, none⟩ = some (.slice (some ⟨q, 0, none⟩) o c2) ∧ W.cell? ⟨q, 0 + k, none⟩ = some (.int .i64 Y)) := fun W hW => by
        obtain ⟨⟨c0, c1, c2⟩, s0, s1⟩ := HCC.out W (st HB5.out hW) (HB05.out.trans (hW.mono (by omega)))
        refine ⟨⟨c0, c1, c2⟩, ⟨s0, s1⟩, (box_gen ((hW.block ob hob5).trans hbx5)).2.1, ?_⟩
        rw [Nat.zero_add]
        exact (hW.cell (p := ⟨q, k, none⟩) (by show q < _; omega)).trans z0
      clear z0
      have hyv : -9223372036854775808 ≤ Y + V ∧ Y + V ≤ 9223372036854775807 := by omega
      clear hXb hw1
      go_wp2_with fail
      rename_i K2 hK2
      refine wp_region_TK (n1 := 20) (T := TL [isW (.pointer (some ⟨ob, 1, none⟩)), isW (.slice (some ⟨q, 0, none⟩) o c2), isW (.int .i64 (k : Nat)), isW (.pointer (some ⟨ob, 1, none⟩)), isW (.slice (some ⟨q, 0, none⟩) o c2), isW (.int .i64 (k : Nat)), isW (.pointer (some ⟨q, 0 + k, none⟩)), isW (.int .i64 Y), isW (.pointer (some ⟨w.heap.size, 1, none⟩)), isW (.slice (some ⟨bo, oo, none⟩) o oc), isW (.int .i64 (k : Nat)), isW (.pointer (some ⟨bo, oo + k, none⟩)), isW (.int .i64 V), isW (.int .i64 (Y + V)), isW (.slice (some ⟨bd, od, none⟩) o cap), isW (.int .i64 (k : Nat)), isW (.pointer (some ⟨bd, od + k * 3, none⟩)), isW (DimV sn l9 h9), isW (.int .i64 hl), isW (.int .i64 (min (Y + V) hl)), (fun _ _ => True), (fun _ _ => True)]) (by kernel_rfl) (by decide) (by kernel_rfl) (by kernel_rfl) ?step ?tail
      case step =>
        intro listed aa W ix HL hi9 hilt
        have dl := HL.dl (l := [some 49, some 50, some 51, some 52, some 53, some 54, some 55, some 56, some 57, some 58, some 59, some 60, some 61, some 62, some 63, some 64, some 65, some 66, some 67, some 68, some 69, none]) rfl
        have ap := apart_of dl (by decide)
        obtain ⟨⟨q1, q2, q3⟩, ⟨q4, q5⟩, q6, q7⟩ := HKK.out W HL.below
        have mono : ∀ p' ∈ [isW (.pointer (some ⟨ob, 1, none⟩)), isW (.slice (some ⟨q, 0, none⟩) o c2), isW (.int .i64 (k : Nat)), isW (.pointer (some ⟨ob, 1, none⟩)), isW (.slice (some ⟨q, 0, none⟩) o c2), isW (.int .i64 (k : Nat)), isW (.pointer (some ⟨q, 0 + k, none⟩)), isW (.int .i64 Y), isW (.pointer (some ⟨w.heap.size, 1, none⟩)), isW (.slice (some ⟨bo, oo, none⟩) o oc), isW (.int .i64 (k : Nat)), isW (.pointer (some ⟨bo, oo + k, none⟩)), isW (.int .i64 V), isW (.int .i64 (Y + V)), isW (.slice (some ⟨bd, od, none⟩) o cap), isW (.int .i64 (k : Nat)), isW (.pointer (some ⟨bd, od + k * 3, none⟩)), isW (DimV sn l9 h9), isW (.int .i64 hl), isW (.int .i64 (min (Y + V) hl)), (fun _ _ => True), (fun _ _ => True)], Mono p' := by
          intro p' hp
          simp only [List.mem_cons, List.not_mem_nil, or_false] at hp
          rcases hp with rfl | rfl | rfl | rfl | rfl | rfl | rfl | rfl | rfl | rfl | rfl | rfl | rfl | rfl | rfl | rfl | rfl | rfl | rfl | rfl | rfl | rfl
          · exact isW_mono _
          · exact isW_mono _
          · exact isW_mono _
          · exact isW_mono _
          · exact isW_mono _
          · exact isW_mono _
          · exact isW_mono _
          · exact isW_mono _
          · exact isW_mono _
          · exact isW_mono _
          · exact isW_mono _
          · exact isW_mono _
          · exact isW_mono _
          · exact isW_mono _
          · exact isW_mono _
          · exact isW_mono _
          · exact isW_mono _
          · exact isW_mono _
          · exact isW_mono _
          · exact isW_mono _
          · exact fun _ _ _ h _ => h
          · exact fun _ _ _ h _ => h
        rcases (by omega : ix = 0 ∨ ix = 1 ∨ ix = 2 ∨ ix = 3 ∨ ix = 4 ∨ ix = 5 ∨ ix = 6 ∨ ix = 7 ∨ ix = 8 ∨ ix = 9 ∨ ix = 10 ∨ ix = 11 ∨ ix = 12 ∨ ix = 13 ∨ ix = 14 ∨ ix = 15 ∨ ix = 16 ∨ ix = 17 ∨ ix = 18 ∨ ix = 19) with rfl | rfl | rfl | rfl | rfl | rfl | rfl | rfl | rfl | rfl | rfl | rfl | rfl | rfl | rfl | rfl | rfl | rfl | rfl | rfl
        · exact wpOp_of rfl (.inl rfl) (op_fB (by decide) rfl rfl (HL.old 8 (old_of' dl 8 (by decide))) (HL.over mono ap rfl rfl (by simp) (Below.refl _ _) rfl))
        · exact wpOp_of rfl (.inl rfl) (op_lsl (.inl rfl) rfl rfl (HL.got' hi9 (j := 0) (t := 49) rfl (by kernel_rfl) rfl rfl) q6 (HL.over mono ap rfl rfl (by simp) (Below.refl _ _) rfl))
        · exact wpOp_of rfl (.inl rfl) (op_mv rfl rfl (HL.over mono ap rfl rfl (by simp) (Below.refl _ _) (HL.old 10 (old_of' dl 10 (by decide)))))
        · exact wpOp_of rfl (.inl rfl) (op_fB (by decide) rfl rfl (HL.old 8 (old_of' dl 8 (by decide))) (HL.over mono ap rfl rfl (by simp) (Below.refl _ _) rfl))
        · exact wpOp_of rfl (.inl rfl) (op_lsl (.inl rfl) rfl rfl (HL.got' hi9 (j := 3) (t := 52) rfl (by kernel_rfl) rfl rfl) q6 (HL.over mono ap rfl rfl (by simp) (Below.refl _ _) rfl))
        · exact wpOp_of rfl (.inl rfl) (op_mv rfl rfl (HL.over mono ap rfl rfl (by simp) (Below.refl _ _) (HL.old 10 (old_of' dl 10 (by decide)))))
        · exact wpOp_of rfl (.inl rfl) (op_ixI rfl rfl (HL.got' hi9 (j := 4) (t := 53) rfl (by kernel_rfl) rfl rfl) (HL.got' hi9 (j := 5) (t := 54) rfl (by kernel_rfl) rfl rfl) hlt (HL.over mono ap rfl rfl (by simp) (Below.refl _ _) rfl))
        · exact wpOp_of rfl (.inl rfl) (op_ldI rfl rfl (HL.got' hi9 (j := 6) (t := 55) rfl (by kernel_rfl) rfl rfl) q7 (HL.over mono ap rfl rfl (by simp) (Below.refl _ _) rfl))
        · exact wpOp_of rfl (.inl rfl) (op_fL1 rfl rfl (HL.old 4 (old_of' dl 4 (by decide))) (HL.over mono ap rfl rfl (by simp) (Below.refl _ _) rfl))
        · exact wpOp_of rfl (.inl rfl) (op_lsl (.inl rfl) rfl rfl (HL.got' hi9 (j := 8) (t := 57) rfl (by kernel_rfl) rfl rfl) q4 (HL.over mono ap rfl rfl (by simp) (Below.refl _ _) rfl))
        · exact wpOp_of rfl (.inl rfl) (op_mv rfl rfl (HL.over mono ap rfl rfl (by simp) (Below.refl _ _) (HL.old 10 (old_of' dl 10 (by decide)))))
        · exact wpOp_of rfl (.inl rfl) (op_ixI rfl rfl (HL.got' hi9 (j := 9) (t := 58) rfl (by kernel_rfl) rfl rfl) (HL.got' hi9 (j := 10) (t := 59) rfl (by kernel_rfl) rfl rfl) hlt (HL.over mono ap rfl rfl (by simp) (Below.refl _ _) rfl))
        · exact wpOp_of rfl (.inl rfl) (op_ldI rfl rfl (HL.got' hi9 (j := 11) (t := 60) rfl (by kernel_rfl) rfl rfl) q5 (HL.over mono ap rfl rfl (by simp) (Below.refl _ _) rfl))
        · exact wpOp_of rfl (.inl rfl) (op_adC rfl rfl (HL.got' hi9 (j := 7) (t := 56) rfl (by kernel_rfl) rfl rfl) (HL.got' hi9 (j := 12) (t := 61) rfl (by kernel_rfl) rfl rfl) hyv (HL.over mono ap rfl rfl (by simp) (Below.refl _ _) rfl))
        · exact wpOp_of rfl (.inl rfl) (op_mv rfl rfl (HL.over mono ap rfl rfl (by simp) (Below.refl _ _) (HL.old 0 (old_of' dl 0 (by decide)))))
        · exact wpOp_of rfl (.inl rfl) (op_mv rfl rfl (HL.over mono ap rfl rfl (by simp) (Below.refl _ _) (HL.old 10 (old_of' dl 10 (by decide)))))
        · exact wpOp_of rfl (.inl rfl) (op_ixD rfl rfl (HL.got' hi9 (j := 14) (t := 63) rfl (by kernel_rfl) rfl rfl) (HL.got' hi9 (j := 15) (t := 64) rfl (by kernel_rfl) rfl rfl) hlt (HL.over mono ap rfl rfl (by simp) (Below.refl _ _) rfl))
        · exact wpOp_of rfl (.inl rfl) (op_ldD rfl rfl (HL.got' hi9 (j := 16) (t := 65) rfl (by kernel_rfl) rfl rfl) q1 q2 q3 (HL.over mono ap rfl rfl (by simp) (Below.refl _ _) rfl))
        · exact wpOp_of rfl (.inl rfl) (op_T1 rfl rfl (HL.got' hi9 (j := 17) (t := 66) rfl (by kernel_rfl) rfl rfl) (fun args w => by kernel_rfl) ((HLLk.out W).mono fun e w' h => ⟨_, h.1, HL.over mono ap rfl rfl (by simp) h.2 rfl⟩))
        · exact wpOp_of rfl (.inl rfl) (op_mn rfl rfl (HL.got' hi9 (j := 13) (t := 62) rfl (by kernel_rfl) rfl rfl) (HL.got' hi9 (j := 18) (t := 67) rfl (by kernel_rfl) rfl rfl)  (HL.over mono ap rfl rfl (by simp) (Below.refl _ _) rfl))
      case tail =>
        intro listed aa W HL hall
        have dl := HL.dl (l := [some 49, some 50, some 51, some 52, some 53, some 54, some 55, some 56, some 57, some 58, some 59, some 60, some 61, some 62, some 63, some 64, some 65, some 66, some 67, some 68, some 69, none]) rfl
        have s0 : slot aa 0 = Value.slice (some ⟨bd, od, none⟩) o cap := HL.old 0 (old_of' dl 0 (by decide))
        have s1 : slot aa 1 = LayV S o sc (some ⟨bo, oo, none⟩) o oc ord tile form codec := HL.old 1 (old_of' dl 1 (by decide))
        have s2 : slot aa 2 = Value.slice XA m mc := HL.old 2 (old_of' dl 2 (by decide))
        have s3 : slot aa 3 = undef := HL.old 3 (old_of' dl 3 (by decide))
        have s4 : slot aa 4 = Value.pointer (some ⟨w.heap.size, 0, none⟩) := HL.old 4 (old_of' dl 4 (by decide))
        have s5 : slot aa 5 = undef := HL.old 5 (old_of' dl 5 (by decide))
        have s6 : slot aa 6 = Value.pointer (some ⟨w.heap.size + 1, 0, none⟩) := HL.old 6 (old_of' dl 6 (by decide))
        have s7 : slot aa 7 = Value.int IntKind.i64 0 := HL.old 7 (old_of' dl 7 (by decide))
        have s8 : slot aa 8 = Value.pointer (some ⟨ob, 0, none⟩) := HL.old 8 (old_of' dl 8 (by decide))
        have s9 : slot aa 9 = Value.int IntKind.i64 0 := HL.old 9 (old_of' dl 9 (by decide))
        have s10 : slot aa 10 = Value.int IntKind.i64 ↑k := HL.old 10 (old_of' dl 10 (by decide))
        have s11 : slot aa 11 = Value.tuple #[BoxW (some ⟨p, 0, none⟩) (some ⟨q, 0, none⟩) o c1 o c2, Value.int IntKind.i64 0] := HL.old 11 (old_of' dl 11 (by decide))
        have s12 : slot aa 12 = Value.slice (some ⟨bd, od, none⟩) o cap := HL.old 12 (old_of' dl 12 (by decide))
        have s13 : slot aa 13 = Value.agg #[Value.slice S o sc, Value.slice (some ⟨bo, oo, none⟩) o oc, Value.int IntKind.i64 ord, Value.int IntKind.i64 tile, Value.int IntKind.i64 form, Value.int IntKind.i64 codec] := HL.old 13 (old_of' dl 13 (by decide))
        have s14 : slot aa 14 = Value.slice XA m mc := HL.old 14 (old_of' dl 14 (by decide))
        have s15 : slot aa 15 = Value.tuple #[BoxW (some ⟨p, 0, none⟩) (some ⟨q, 0, none⟩) o c1 o c2, Value.int IntKind.i64 0] := HL.old 15 (old_of' dl 15 (by decide))
        have s16 : slot aa 16 = BoxW (some ⟨p, 0, none⟩) (some ⟨q, 0, none⟩) o c1 o c2 := HL.old 16 (old_of' dl 16 (by decide))
        have s17 : slot aa 17 = Value.int IntKind.i64 0 := HL.old 17 (old_of' dl 17 (by decide))
        have s18 : slot aa 18 = Value.int IntKind.i64 0 := HL.old 18 (old_of' dl 18 (by decide))
        have s19 : slot aa 19 = Value.bool false := HL.old 19 (old_of' dl 19 (by decide))
        have s20 : slot aa 20 = undef := HL.old 20 (old_of' dl 20 (by decide))
        have s21 : slot aa 21 = undef := HL.old 21 (old_of' dl 21 (by decide))
        have s22 : slot aa 22 = Value.int IntKind.i64 ↑k := HL.old 22 (old_of' dl 22 (by decide))
        have s23 : slot aa 23 = Value.slice (some ⟨bd, od, none⟩) o cap := HL.old 23 (old_of' dl 23 (by decide))
        have s24 : slot aa 24 = Value.int IntKind.i64 ↑o := HL.old 24 (old_of' dl 24 (by decide))
        have s25 : slot aa 25 = Value.bool true := HL.old 25 (old_of' dl 25 (by decide))
        have s70 : slot aa 70 = undef := HL.old 70 (old_of' dl 70 (by decide))
        have e0 := HL.got 1 _ 50 rfl rfl (hall 1 (by decide))
        have e1 := HL.got 2 _ 51 rfl rfl (hall 2 (by decide))
        have e2 := HL.got 19 _ 68 rfl rfl (hall 19 (by decide))
        obtain ⟨fr, hf, rfl⟩ := actlitf 71 aa (HL.frame.trans (by simp)) (HL.defers.trans rfl)
        rw [show List.range 71 = [0, 1, 2, 3, 4, 5, 6, 7, 8, 9, 10, 11, 12, 13, 14, 15, 16, 17, 18, 19, 20, 21, 22, 23, 24, 25, 26, 27, 28, 29, 30, 31, 32, 33, 34, 35, 36, 37, 38, 39, 40, 41, 42, 43, 44, 45, 46, 47, 48, 49, 50, 51, 52, 53, 54, 55, 56, 57, 58, 59, 60, 61, 62, 63, 64, 65, 66, 67, 68, 69, 70] from rfl]
        simp only [List.map_cons, List.map_nil]
        have q0 := (hf 0).symm.trans s0
        have q1 := (hf 1).symm.trans s1
        have q2 := (hf 2).symm.trans s2
        have q3 := (hf 3).symm.trans s3
        have q4 := (hf 4).symm.trans s4
        have q5 := (hf 5).symm.trans s5
        have q6 := (hf 6).symm.trans s6
        have q7 := (hf 7).symm.trans s7
        have q8 := (hf 8).symm.trans s8
        have q9 := (hf 9).symm.trans s9
        have q10 := (hf 10).symm.trans s10
        have q11 := (hf 11).symm.trans s11
        have q12 := (hf 12).symm.trans s12
        have q13 := (hf 13).symm.trans s13
        have q14 := (hf 14).symm.trans s14
        have q15 := (hf 15).symm.trans s15
        have q16 := (hf 16).symm.trans s16
        have q17 := (hf 17).symm.trans s17
        have q18 := (hf 18).symm.trans s18
        have q19 := (hf 19).symm.trans s19
        have q20 := (hf 20).symm.trans s20
        have q21 := (hf 21).symm.trans s21
        have q22 := (hf 22).symm.trans s22
        have q23 := (hf 23).symm.trans s23
        have q24 := (hf 24).symm.trans s24
        have q25 := (hf 25).symm.trans s25
        have q70 := (hf 70).symm.trans s70
        have q50 : fr 50 = .slice (some ⟨q, 0, none⟩) o c2 := (hf 50).symm.trans e0
        have q51 : fr 51 = .int .i64 (k : Nat) := (hf 51).symm.trans e1
        have q68 : fr 68 = .int .i64 (min (Y + V) hl) := (hf 68).symm.trans e2
        rw [q0, q1, q2, q3, q4, q5, q6, q7, q8, q9, q10, q11, q12, q13, q14, q15, q16, q17, q18, q19, q20, q21, q22, q23, q24, q25, q70, q50, q51, q68]
        clear s0 s1 s2 s3 s4 s5 s6 s7 s8 s9 s10 s11 s12 s13 s14 s15 s16 s17 s18 s19 s20 s21 s22 s23 s24 s25 s70 q0 q1 q2 q3 q4 q5 q6 q7 q8 q9 q10 q11 q12 q13 q14 q15 q16 q17 q18 q19 q20 q21 q22 q23 q24 q25 q70 q50 q51 q68
        have hb0 := HL.below
        have HP6 := Lib.hid (HP5.out.below hb0)
        have HQ6 := Lib.hid (HQ5.out.below hb0)
        have hbx6 := (hb0.block ob hob5).trans hbx5
        have HB6 : Hid (Below w.heap.size w W) := st HB5.out hb0
        have HB06 : Hid (Below (w.heap.size + 2) W0 W) := HB05.out.trans (hb0.mono (by omega))
        clear hf dl hall HL e0 e1 e2 hb0
        rw [← HE2.out]
        generalize hW2 : wideHi lo hi sd ov c k = W2 at *
        have HW2 := Lib.hid hW2
        clear hW2
        obtain ⟨hqc, hqf⟩ := HQ6.out.own' (by omega)
        have z0 := hqc k hlt
        have z1 := hqf k
        clear hqc hqf
        go_wp2_with fail
        have HP7 := Lib.hid (HP6.out.kept (grown_set W q k (.int .i64 W2)) (.inr (fun e => absurd (Option.some.inj (show some p = some q from e)) hpq)))
        have HQ7 := Lib.hid (HQ6.out.set k hlt W2)
        have hbx7 : (W.setCell ⟨q, k, none⟩ (.int .i64 W2)).heap[ob]? = some (.cells #[.slice (some ⟨p, 0, none⟩) o c1, .slice (some ⟨q, 0, none⟩) o c2] 66 (0, 0)) := (blk_setCell_other _ _ _ _ (by show ob ≠ q; omega)).trans hbx6
        have HB7 : Hid (Below w.heap.size w (W.setCell ⟨q, k, none⟩ (.int .i64 W2))) := HB6.out.setCell (by show w.heap.size ≤ q; omega) _
        have HB07 : Hid (Below (w.heap.size + 2) W0 (W.setCell ⟨q, k, none⟩ (.int .i64 W2))) := HB06.out.setCell (by show w.heap.size + 2 ≤ q; omega) _
        go_roundw
        case rel =>
          refine ⟨k + 1, by omega, by go_num, hbx7, HP7.out.congr fun j hj => ?_, HQ7.out.congr fun j hj => ?_, HB7.out, HB07.out⟩
          · unfold updZ mixZ
            by_cases e : j = k
            · rw [if_pos e, if_pos (by omega), e, HW1.out]
            · rw [if_neg e]
              by_cases e2 : j < k
              · rw [if_pos e2, if_pos (by omega)]
              · rw [if_neg e2, if_neg (by omega)]
          · unfold updZ mixZ
            by_cases e : j = k
            · rw [if_pos e, if_pos (by omega), e, HW2.out]
            · rw [if_neg e]
              by_cases e2 : j < k
              · rw [if_pos e2, if_pos (by omega)]
              · rw [if_neg e2, if_neg (by omega)]
        case measure => simp [intOf]; omega
    · obtain rfl : k = o := by omega
      have hres := (KB2.out wr HB0w.out).2
      obtain ⟨r0, r9, z0, z1⟩ := box_at hres
      obtain ⟨t0, t1, u0, u1⟩ := box_gen hbx
      have q1 := (HP.out.kept (grown_set wr (w.heap.size + 1) 0 (.slice (some ⟨p, 0, none⟩) k c1)) (.inr (fun e => absurd (Option.some.inj (show some p = some (w.heap.size + 1) from e)) (by omega))))
      have q2 := (HQ.out.kept (grown_set wr (w.heap.size + 1) 0 (.slice (some ⟨p, 0, none⟩) k c1)) (.inr (fun e => absurd (Option.some.inj (show some q = some (w.heap.size + 1) from e)) (by omega))))
      have Q1 := Lib.hid (q1.kept (grown_set _ (w.heap.size + 1) 1 (.slice (some ⟨q, 0, none⟩) k c2)) (.inr (fun e => absurd (Option.some.inj (show some p = some (w.heap.size + 1) from e)) (by omega))))
      have Q2 := Lib.hid (q2.kept (grown_set _ (w.heap.size + 1) 1 (.slice (some ⟨q, 0, none⟩) k c2)) (.inr (fun e => absurd (Option.some.inj (show some q = some (w.heap.size + 1) from e)) (by omega))))
      clear q1 q2
      go_wp2
      refine bodyPost_ret (v := .tuple #[.agg #[.slice (some ⟨p, 0, none⟩) k c1, .slice (some ⟨q, 0, none⟩) k c2], .int .i64 0]) (res_cell_tmp Tryz.results29 _ _ (w.heap.size + 1) 66 _ (0, 0) _ rfl (put2 hres _ _) Tryz.underlying66 rfl (by rw [info_box]; rfl)) rfl ?_
      exact ⟨_, _, _, _, rfl, (Q1.out.congr fun j hj => if_pos hj).ints', (Q2.out.congr fun j hj => if_pos hj).ints', (HBw.out.setCell (p := ⟨w.heap.size + 1, 0, none⟩) (by show w.heap.size ≤ w.heap.size + 1; omega) _).setCell (p := ⟨w.heap.size + 1, 1, none⟩) (by show w.heap.size ≤ w.heap.size + 1; omega) _⟩
end Go.Proofs.YthmnmologmmeaaaGreatDoor
