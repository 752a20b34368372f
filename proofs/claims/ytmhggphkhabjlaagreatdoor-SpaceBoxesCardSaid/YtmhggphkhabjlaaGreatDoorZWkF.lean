/- The keys of an order: those of the Hilbert order. -/
import Derived.Test.YtmhggphkhabjlaaGreatDoorZOrdE
import Derived.Test.YtmhggphkhabjlaaGreatDoorShelf
import Derived.StillTailTactics
import Derived.Test.YtmhggphkhabjlaaGreatDoorZSrt
import Derived.Test.YtmhggphkhabjlaaGreatDoorZSpJ
import Derived.Test.YtmhggphkhabjlaaGreatDoorZCmpS

/- The keys of an order: those of the Hilbert order. -/
section
namespace Go.Proofs.YtmhggphkhabjlaaGreatDoor
open Go Go.RowKit Go.Deep

/-- The number of bits of the first k extents' greatest offsets. -/
def wdTo (lo hi : Nat → Int) : Nat → Nat
  | 0 => 0
  | k + 1 => max (wdTo lo hi k) (Lib.bitLen (hi k - lo k).toNat)
theorem frm_row (L H : Value) (tile : Int) (u : Nat) (W : World) (b : Nat) (h : W.heap[b]? = some (.cells #[L, H, .int .i64 tile, .int .i64 (u : Nat)] 131 (0, 0))) : W.cell? ⟨b, 0, none⟩ = some L ∧ W.cell? ⟨b, 1, none⟩ = some H ∧ W.cell? ⟨b, 2, none⟩ = some (.int .i64 tile) ∧ W.cell? ⟨b, 3, none⟩ = some (.int .i64 (u : Nat)) ∧ W.frozen? ⟨b, 3, none⟩ = false := by
  refine ⟨?_, ?_, ?_, ?_, by simp [World.frozen?, h]⟩ <;> (rw [cell_of_row _ _ _ _ _ _ h]; rfl)

theorem frm_set {W : World} {b : Nat} {L H T U : Value} (h : W.heap[b]? = some (.cells #[L, H, T, U] 131 (0, 0))) (v : Value) : (W.setCell ⟨b, 3, none⟩ v).heap[b]? = some (.cells #[L, H, T, v] 131 (0, 0)) := by
  simp [World.setCell, Array.getElem?_modify, h]
set_option maxRecDepth 100000 in
set_option maxHeartbeats 4000000 in
theorem s_keys (w : World) (S O L H : Option Addr) (s sc o oc n c d : Nat) (tile form codec : Int) (lo hi : Nat → Int) (hl : IntsAt w L n lo) (hh : IntsAt w H n hi) (hn : n ≤ 1000)
    (hb : ∀ k, k < n → -1073741824 ≤ lo k ∧ lo k ≤ hi k ∧ hi k ≤ 1073741824) :
    Calls Tryz.prog 75 #[LayV S s sc O o oc 2 tile form codec, BoxW L H n c n d] w fun e w' => e = .returned (.func (.func 94) #[FrmV L n c H n d tile (wdTo lo hi n : Nat)] #[]) ∧ Below w.heap.size w w' := by
  have HLo := Lib.hid hl
  have HHi := Lib.hid hh
  have HB := Lib.hid hb
  clear hl hh hb
  have HBL := Lib.hid Tryz.bits_Len
  have KB := Lib.hid (lay_box w S O s sc o oc 2 tile form codec)
  have HB1 : Hid (Below w.heap.size w (w.alloc (.cells #[.slice S s sc, .slice O o oc, .int .i64 2, .int .i64 tile, .int .i64 form, .int .i64 codec] 48))) := (Below.refl _ _).alloc (Nat.le_refl _) _
  have hz1 : (w.alloc (.cells #[.slice S s sc, .slice O o oc, .int .i64 2, .int .i64 tile, .int .i64 form, .int .i64 codec] 48)).heap.size = w.heap.size + 1 := by simp
  go_enter Tryz.func75, Tryz.ntmps75
  go_wp2_with fail
  generalize w.alloc (.cells #[.slice S s sc, .slice O o oc, .int .i64 2, .int .i64 tile, .int .i64 form, .int .i64 codec] 48) = Wa at *
  have K2 := Lib.hid (box_two Wa (.slice L n c) (.slice H n d) 41)
  have HB2 : Hid (Below Wa.heap.size Wa (Wa.alloc (.cells #[.slice L n c, .slice H n d] 41))) := (Below.refl _ _).alloc (Nat.le_refl _) _
  rw [hz1] at K2 HB2 KB
  have HB3 : Hid (Below w.heap.size w (Wa.alloc (.cells #[.slice L n c, .slice H n d] 41))) := Below.trans HB1.out (HB2.out.mono (by omega))
  generalize hWb : Wa.alloc (.cells #[.slice L n c, .slice H n d] 41) = Wb at *
  have hz2 : Wb.heap.size = w.heap.size + 2 := by rw [← hWb]; simp; omega
  clear hWb
  obtain ⟨l0, l1, l2, l3, l4, l5⟩ := KB.out Wb HB2.out
  obtain ⟨m0, m1⟩ := K2.out Wb (Below.refl _ _)
  go_wp2_with fail
  have hr0 : (Wb.alloc (.cells #[.slice L n c, .slice H n d, .int .i64 tile, .int .i64 0] 131)).heap[w.heap.size + 1 + 1]? = some (.cells #[.slice L n c, .slice H n d, .int .i64 tile, .int .i64 ((0 : Nat) : Int)] 131 (0, 0)) := by
    have h := heap_alloc_new Wb (.cells #[.slice L n c, .slice H n d, .int .i64 tile, .int .i64 0] 131)
    rw [hz2] at h
    exact h
  have HB5 : Hid (Below Wb.heap.size Wb (Wb.alloc (.cells #[.slice L n c, .slice H n d, .int .i64 tile, .int .i64 0] 131))) := (Below.refl _ _).alloc (Nat.le_refl _) _
  generalize Wb.alloc (.cells #[.slice L n c, .slice H n d, .int .i64 tile, .int .i64 0] 131) = Wc at *
  clear m0 m1 l0 l1 l2 l3 l4 l5
  go_loopw [6, 7, 15] (fun _ _ i wr => ∃ k u : Nat, k ≤ n ∧ i = .int .i64 k ∧ wr.heap[w.heap.size + 1 + 1]? = some (.cells #[.slice L n c, .slice H n d, .int .i64 tile, .int .i64 (u : Int)] 131 (0, 0)) ∧ Hid (u = wdTo lo hi k) ∧ Hid (Below Wb.heap.size Wb wr)) (fun _ _ i _ => n - (intOf i).toNat)
  case atStart => exact ⟨0, 0, Nat.zero_le _, rfl, hr0, rfl, HB5.out⟩
  case round =>
    obtain ⟨k, u, hk, rfl, hrow, HU, HBr⟩ := hrel
    obtain ⟨m0, m1⟩ := K2.out wr HBr.out
    obtain ⟨l0, -, l2, -⟩ := KB.out wr (Below.trans HB2.out (HBr.out.mono (by omega)))
    have HBw : Hid (Below w.heap.size w wr) := Below.trans HB3.out (HBr.out.mono (by omega))
    obtain ⟨g0, g1, g2, g3, gz⟩ := frm_row _ _ _ _ _ _ hrow
    by_cases hlt : k < n
    · obtain ⟨b1, o1, rfl, _, hc1⟩ := (HHi.out.below HBw.out) (by omega)
      have x0 := hc1 k hlt
      obtain ⟨b2, o2, rfl, _, hc2⟩ := (HLo.out.below HBw.out) (by omega)
      have y0 := hc2 k hlt
      clear hc1 hc2
      obtain ⟨f1, f2, f3⟩ := HB.out k hlt
      obtain ⟨mo, hmo⟩ : ∃ mo : Nat, (mo : Int) = hi k - lo k := ⟨(hi k - lo k).toNat, by omega⟩
      have HR : Hid (wdTo lo hi (k + 1) = max (wdTo lo hi k) (Lib.bitLen mo)) := by show _ = _; rw [wdTo, show (hi k - lo k).toNat = mo by omega]
      rw [← HU.out] at HR
      generalize lo k = x at *
      generalize hi k = y at *
      have hsu : IntKind.i64.wrap (y - x) = y - x := w64 (by omega) (by omega)
      have HL9 : Hid (∀ W, Calls Tryz.prog 92 #[.int .u64 (IntKind.u64.wrap (y - x))] W fun e w' => e = .returned (.int .i64 (Lib.bitLen mo)) ∧ w' = W) := fun W => by
        rw [wrap_u (n := y - x) (by omega) (by omega)]
        have h := HBL.out (y - x) W (by omega) (by omega)
        rwa [← hmo, Int.toNat_natCast, hmo] at h
      clear l0 l2 g0 g1 g2
      go_wp2_with fail
      refine wp_region_still_tail 13 (by kernel_rfl) (by kernel_rfl) ?_
      simp only [List.take_succ_cons, List.take_zero, List.drop_succ_cons, List.drop_zero]
      iterate 10 still_step
      still_call (HL9.out _)
      iterate 2 still_step
      refine wpStill_nil ?_
      change wpList _ _ _ _ _ wr.drew
      have hrow2 : wr.drew.heap[w.heap.size + 1 + 1]? = some (.cells #[.slice (some ⟨b2, o2, none⟩) n c, .slice (some ⟨b1, o1, none⟩) n d, .int .i64 tile, .int .i64 (u : Int)] 131 (0, 0)) := hrow
      have HBr2 : Hid (Below Wb.heap.size Wb wr.drew) := Below.drew HBr.out
      clear g3 gz hrow HBr x0 y0 m0 m1 hsu
      generalize wr.drew = w5 at *
      obtain ⟨-, -, -, g3, gz⟩ := frm_row _ _ _ _ _ _ hrow2
      go_wp2
      have hmx : max (u : Int) (Lib.bitLen mo : Nat) = ((max u (Lib.bitLen mo) : Nat) : Int) := by omega
      exact ⟨⟨k + 1, max u (Lib.bitLen mo), by omega, by go_num, by rw [frm_set hrow2, hmx], HR.out.symm, HBr2.out.setCell (by show Wb.heap.size ≤ w.heap.size + 1 + 1; omega) _⟩, by simp [intOf]; omega⟩
    · obtain rfl : k = n := by omega
      go_wp2
      go_ret
      exact ⟨by rw [← HU.out]; rfl, HBw.out⟩
end Go.Proofs.YtmhggphkhabjlaaGreatDoor
end

/- The coordinates of a box in the Hilbert order. -/
section
namespace Go.Proofs.YtmhggphkhabjlaaGreatDoor
open Go Go.RowKit Go.Deep Go.Shelf

/-- The key of the t-th coordinates. -/
def hilK (n wd : Nat) (lo : Nat → Int) (e : Nat → Nat) (t : Nat) : Int := (hilN n wd (fun k => if k < n then (crdZ lo e n t k - lo k).toNat else 0) : Nat)
theorem crd_ints {n : Nat} {lo : Nat → Int} {e : Nat → Nat} {A t : Nat} {v : Value} {W : World} (h : CrdAt n lo e A t v W) : ∃ P c, v = .slice P n c ∧ IntsAt W P n (fun k => crdZ lo e n t k) := by
  obtain ⟨b, c, g, rfl, _, h3, h4, h5⟩ := h
  exact ⟨_, _, rfl, fun _ => ⟨b, 0, rfl, h4.lt, fun k hk => by rw [Nat.zero_add, h4.cell (by omega), h5 k hk]⟩⟩

set_option maxRecDepth 100000 in
set_option maxHeartbeats 4000000 in
theorem s_Seq (w : World) (S O L H : Option Addr) (s sc o oc n c d : Nat) (tile form codec : Int) (lo hi : Nat → Int) (e : Nat → Nat) (hl : IntsAt w L n lo) (hh : IntsAt w H n hi) (h1 : 1 ≤ n) (h4 : n ≤ 4) (ho : ordB 2 tile = true)
    (hb : ∀ k, k < n → -1073741824 ≤ lo k ∧ lo k ≤ hi k ∧ hi k ≤ 1073741824 ∧ hi k - lo k < 4096) (he : ∀ k, k < n → 1 ≤ e k ∧ hi k = lo k + e k - 1) (hv : volO lo hi n ≤ 4096) (hv2 : volC e n 0 ≤ 4096) (hw : wdTo lo hi n ≤ 15) :
    Calls Tryz.prog 44 #[LayV S s sc O o oc 2 tile form codec, BoxW L H n c n d] w fun e' w' => ∃ b, e' = .returned (.tuple #[.slice (some ⟨b, 0, none⟩) (volC e n 0) (volC e n 0), .int .i64 0]) ∧ ListsAt w' (some ⟨b, 0, none⟩) (volC e n 0) (fun _ => n) (fun t k => crdZ lo e n ((pairR (hilK n (wdTo lo hi n) lo e) (volC e n 0))[t]!).2 k) ∧ Below w.heap.size w w' := by
  have hN1 : 1 ≤ volC e n 0 := volC_pos' (fun k hk => (he k hk).1) (Nat.zero_le _)
  have HOE : Hid (∀ W, Below w.heap.size w W → Calls Tryz.prog 73 #[LayV S s sc O o oc 2 tile form codec, BoxW L H n c n d, .int .i64 n] W fun e w' => e = .returned (.int .i64 0) ∧ Below W.heap.size W w') := fun W hW => s_orderError W S O L H s sc o oc n c d 2 tile form codec lo hi (hl.below hW) (hh.below hW) h1 h4 ho hb hv
  have HCO : Hid (∀ W, Calls Tryz.prog 67 #[BoxW L H n c n d] W fun e w' => ∃ Bb, e = .returned (.func (.func 88) #[] #[.pointer (some ⟨Bb, 0, none⟩)]) ∧ Below W.heap.size W w' ∧ Bb < w'.heap.size ∧ w'.heap[Bb]? = some (.cells #[.slice L n c, .slice H n d] 41 (0, 0))) := fun W => (c_coordinates W (.slice L n c) (.slice H n d)).mono fun e' w' h => by
    obtain ⟨rfl, rfl⟩ := h
    exact ⟨_, rfl, (Below.refl _ _).alloc (Nat.le_refl _) _, by simp, heap_alloc_new W _⟩
  have HKE : Hid (∀ W, Below w.heap.size w W → Calls Tryz.prog 75 #[LayV S s sc O o oc 2 tile form codec, BoxW L H n c n d] W fun e w' => e = .returned (.func (.func 94) #[FrmV L n c H n d tile (wdTo lo hi n : Nat)] #[]) ∧ Below W.heap.size W w') := fun W hW => s_keys W S O L H s sc o oc n c d tile form codec lo hi (hl.below hW) (hh.below hW) (by omega) (fun k hk => ⟨(hb k hk).1, (hb k hk).2.1, (hb k hk).2.2.1⟩)
  have HSO : Hid (∀ W Bb W1, Below w.heap.size w W1 → Below W1.heap.size W1 W → Bb < W1.heap.size → W1.heap[Bb]? = some (.cells #[.slice L n c, .slice H n d] 41 (0, 0)) → Calls Tryz.prog 74 #[.func (.func 88) #[] #[.pointer (some ⟨Bb, 0, none⟩)], .func (.func 94) #[FrmV L n c H n d tile (wdTo lo hi n : Nat)] #[], .func (.func 76) #[] #[]] W fun e' w' => ∃ b, e' = .returned (.slice (some ⟨b, 0, none⟩) (volC e n 0) (volC e n 0)) ∧ ListsAt w' (some ⟨b, 0, none⟩) (volC e n 0) (fun _ => n) (fun t k => crdZ lo e n ((pairR (hilK n (wdTo lo hi n) lo e) (volC e n 0))[t]!).2 k) ∧ Below W.heap.size W w') := fun W Bb W1 hW1 hW hB hBb => by
    have hWw : Below w.heap.size w W := hW1.trans (hW.mono hW1.size)
    obtain ⟨bl, ol, rfl, hbl, hcl⟩ := (hl.below hWw) (by omega)
    obtain ⟨bh, oh, rfl, hbh, hch⟩ := (hh.below hWw) (by omega)
    have hb2 : W.heap[Bb]? = _ := (hW.block Bb hB).trans hBb
    have hB2 : Bb < W.heap.size := Nat.lt_of_lt_of_le hB hW.size
    refine (c_sorted W _ _ (enters_of Tryz.func88 (by kernel_rfl) rfl) (N := volC e n 0) (by omega) hN1
      (fun m hm => crd_iter m hm Bb bl ol c bh oh d n lo hi e h1 (by omega) (fun k hk => ⟨(he k hk).1, (he k hk).2, (hb k hk).1, by have := (hb k hk).2.2.1; omega⟩)) (crd_elem n lo e) (fun A t v W h => by obtain ⟨b, c, g, h, _⟩ := h; exact ⟨_, _, _, h⟩)
      (fun U hU => ?_) 94 _ (enters_of Tryz.func94 (by kernel_rfl) rfl) (hilK n (wdTo lo hi n) lo e) ?_).mono ?_
    · have hU2 := (hU.block Bb hB2).trans hb2
      exact ⟨by rw [cell_of_row _ _ _ _ _ _ hU2]; rfl, by rw [cell_of_row _ _ _ _ _ _ hU2]; rfl, fun k hk => ⟨(hU.cell (p := ⟨bl, ol + k, none⟩) hbl).trans (hcl k hk), (hU.cell (p := ⟨bh, oh + k, none⟩) hbh).trans (hch k hk)⟩⟩
    · intro A t v U ht hv hU
      obtain ⟨P, cc, rfl, hP⟩ := crd_ints hv
      have hUw : Below w.heap.size w U := hWw.trans (hU.mono hWw.size)
      exact s_hilbert U (some ⟨bl, ol, none⟩) (some ⟨bh, oh, none⟩) P n c n d cc tile _ lo _ (hl.below hUw) hP h1 h4 hw (fun k hk => by
        have hd := digC_lt (t := t) (fun k hk => (he k hk).1) hk
        have hk1 := he k hk
        have hk2 := hb k hk
        unfold crdZ
        omega)
    · rintro e' w' ⟨b, A, xs, rfl, q1, q2, q3, q4⟩
      refine ⟨b, rfl, fun _ => ⟨b, 0, rfl, q2.lt, fun k hk => ?_⟩, q4⟩
      obtain ⟨P, cc, hx, hP⟩ := crd_ints (q3 _ (pairR_lt (hilK n (wdTo lo hi n) lo e) (volC e n 0) k hk))
      exact ⟨P, cc, by rw [Nat.zero_add, q2.cell hk, hx], hP, by show n ≤ 1000000; omega⟩
  have KB := Lib.hid (lay_box w S O s sc o oc 2 tile form codec)
  have HB1 : Hid (Below w.heap.size w (w.alloc (.cells #[.slice S s sc, .slice O o oc, .int .i64 2, .int .i64 tile, .int .i64 form, .int .i64 codec] 48))) := (Below.refl _ _).alloc (Nat.le_refl _) _
  have hz1 : (w.alloc (.cells #[.slice S s sc, .slice O o oc, .int .i64 2, .int .i64 tile, .int .i64 form, .int .i64 codec] 48)).heap.size = w.heap.size + 1 := by simp
  generalize hilK n (wdTo lo hi n) lo e = ky at *
  generalize wdTo lo hi n = wd at *
  generalize volC e n 0 = N at *
  clear hl hh h1 h4 ho hb he hv hv2 hw hN1
  go_enter Tryz.func44, Tryz.ntmps44
  go_wp2_with fail
  generalize w.alloc (.cells #[.slice S s sc, .slice O o oc, .int .i64 2, .int .i64 tile, .int .i64 form, .int .i64 codec] 48) = Wa at *
  have K2 := Lib.hid (box_two Wa (.slice L n c) (.slice H n d) 41)
  have HB2 : Hid (Below Wa.heap.size Wa (Wa.alloc (.cells #[.slice L n c, .slice H n d] 41))) := (Below.refl _ _).alloc (Nat.le_refl _) _
  rw [hz1] at K2 HB2 KB
  have HB3 : Hid (Below w.heap.size w (Wa.alloc (.cells #[.slice L n c, .slice H n d] 41))) := Below.trans HB1.out (HB2.out.mono (by omega))
  generalize hWb : Wa.alloc (.cells #[.slice L n c, .slice H n d] 41) = Wb at *
  have hz2 : Wb.heap.size = w.heap.size + 2 := by rw [← hWb]; simp; omega
  clear hWb
  have KK : Hid (∀ W, Below Wb.heap.size Wb W → (W.cell? ⟨w.heap.size, 0, none⟩ = some (.slice S s sc) ∧ W.cell? ⟨w.heap.size, 1, none⟩ = some (.slice O o oc) ∧ W.cell? ⟨w.heap.size, 2, none⟩ = some (.int .i64 2) ∧ W.cell? ⟨w.heap.size, 3, none⟩ = some (.int .i64 tile) ∧ W.cell? ⟨w.heap.size, 4, none⟩ = some (.int .i64 form) ∧ W.cell? ⟨w.heap.size, 5, none⟩ = some (.int .i64 codec)) ∧ W.cell? ⟨w.heap.size + 1, 0, none⟩ = some (.slice L n c) ∧ W.cell? ⟨w.heap.size + 1, 1, none⟩ = some (.slice H n d)) := fun W hW => ⟨KB.out W (Below.trans HB2.out (hW.mono (by omega))), K2.out W hW⟩
  clear KB K2 HB1 HB2
  obtain ⟨⟨l0, l1, l2, l3, l4, l5⟩, m0, m1⟩ := KK.out Wb (Below.refl _ _)
  go_wp2_with (first
    | (go_at_call 73; refine (HOE.out _ HB3.out).mono ?_; rintro e w1 ⟨rfl, hb1⟩; obtain ⟨⟨l0, l1, l2, l3, l4, l5⟩, m0, m1⟩ := KK.out w1 hb1))
  clear l0 l1 l2 l3 l4 l5 m0 m1
  have B0 : Below w.heap.size w w1 := st HB3.out hb1
  have KC : Hid (∀ W, Below w1.heap.size w1 W → (W.cell? ⟨w.heap.size, 0, none⟩ = some (.slice S s sc) ∧ W.cell? ⟨w.heap.size, 1, none⟩ = some (.slice O o oc) ∧ W.cell? ⟨w.heap.size, 2, none⟩ = some (.int .i64 2) ∧ W.cell? ⟨w.heap.size, 3, none⟩ = some (.int .i64 tile) ∧ W.cell? ⟨w.heap.size, 4, none⟩ = some (.int .i64 form) ∧ W.cell? ⟨w.heap.size, 5, none⟩ = some (.int .i64 codec)) ∧ W.cell? ⟨w.heap.size + 1, 0, none⟩ = some (.slice L n c) ∧ W.cell? ⟨w.heap.size + 1, 1, none⟩ = some (.slice H n d)) := fun W hW => KK.out W (hb1.trans (hW.mono hb1.size))
  have B0d : Below w1.heap.size w1 w1.drew := Below.drew (Below.refl _ _)
  clear KK HB3
  go_region_held3 (fun W => (W.cell? ⟨w.heap.size, 0, none⟩ = some (.slice S s sc) ∧ W.cell? ⟨w.heap.size, 1, none⟩ = some (.slice O o oc) ∧ W.cell? ⟨w.heap.size, 2, none⟩ = some (.int .i64 2) ∧ W.cell? ⟨w.heap.size, 3, none⟩ = some (.int .i64 tile) ∧ W.cell? ⟨w.heap.size, 4, none⟩ = some (.int .i64 form) ∧ W.cell? ⟨w.heap.size, 5, none⟩ = some (.int .i64 codec)) ∧ W.cell? ⟨w.heap.size + 1, 0, none⟩ = some (.slice L n c) ∧ W.cell? ⟨w.heap.size + 1, 1, none⟩ = some (.slice H n d))
    (first | exact KC.out _ (st (st hb2 hb3) hb4) | exact KC.out _ (st hb2 hb3) | exact KC.out _ hb2 | exact KC.out _ B0d | exact KC.out _ (Below.refl _ _))
    (first
      | (go_at_call 67; refine (HCO.out _).mono ?_; rintro e w2 ⟨Bb, rfl, hb2', hk2, hk3⟩; have hb2 : Below w1.heap.size w1 w2 := st B0d hb2')
      | (go_at_call 75; refine (HKE.out _ (st B0 hb2)).mono ?_; rintro e w3 ⟨rfl, hb3⟩)
      | (go_at_call 74; refine (HSO.out _ Bb w2 (st B0 hb2) hb3 hk2 hk3).mono ?_; rintro e w4 ⟨b, rfl, hL, hb4⟩))
  all_goals
    go_wp2
    go_ret2
    exact ⟨b, rfl, hL, st B0 (st (st hb2 hb3) hb4)⟩
end Go.Proofs.YtmhggphkhabjlaaGreatDoor
end

/- What holds of the driver's examples. -/
section
namespace Go.Proofs.YtmhggphkhabjlaaGreatDoor
open Go Go.RowKit Go.Deep

theorem nm_ok : nameB (nmS 0) = true ∧ nameB (nmS 1) = true := ⟨by kernel_rfl, by kernel_rfl⟩
theorem in_none (s : ByteArray) : inN [] s = false := inN_false.2 (by simp)
theorem in_one : inN [nmS 0] (nmS 1) = false := inN_false.2 (by
  intro h
  rw [List.mem_singleton] at h
  exact absurd h (by decide))
theorem dims_ok (lo hi : Nat → Int) (h : ∀ k, k < 2 → -1073741824 ≤ lo k ∧ lo k ≤ 1073741824 ∧ lo k ≤ hi k ∧ hi k ≤ 1073741825) : dimsZ nmS lo hi 2 = 0 := by
  have h0 := h 0 (by omega)
  have h1 := h 1 (by omega)
  have d0 : dimsTo [] nmS lo hi 1 = 0 := by
    simp only [dimsTo, metK, dimE, nm_ok.1, in_none, Bool.not_false, Bool.and_self, if_true]
    rw [if_neg (by omega)]
  have d1 : dimsTo [] nmS lo hi 2 = 0 := by
    rw [dimsTo, if_pos d0]
    show dimE [nmS 0] (nmS 1) (lo 1) (hi 1) = 0
    simp only [dimE, nm_ok.2, in_one, Bool.not_false, Bool.and_self, if_true]
    rw [if_neg (by omega)]
  unfold dimsZ dimsEr
  rw [if_neg (by omega), d1]
theorem two {P : Nat → Prop} (h0 : P 0) (h1 : P 1) : ∀ k, k < 2 → P k := fun k hk => by
  rcases (by omega : k = 0 ∨ k = 1) with rfl | rfl <;> assumption
theorem lay_ok : layE nmS (pairZ (-2) 0) (pairZ 5 1073741825) 2 (pairZ 4 3) (pairZ 1 0) 2 2 1 0 1 1 = 0 := by
  have hd : dimsZ nmS (pairZ (-2) 0) (pairZ 5 1073741825) 2 = 0 := dims_ok _ _ (two (by decide) (by decide))
  unfold layE
  rw [hd, if_neg (by simp), if_neg (by omega)]
  refine Eq.trans (b := (0 : Int)) ?_ rfl
  kernel_rfl
theorem at_ok : atE nmS (pairZ (-2) 0) (pairZ 5 1073741825) 2 (pairZ 4 3) (pairZ 1 0) 2 2 1 0 1 1 (pairZ 1 7) 2 = 0 := by
  unfold atE
  rw [lay_ok]
  kernel_rfl
theorem core_ok : coreE nmS (pairZ (-2) 0) (pairZ 5 1073741825) 2 (pairZ 4 3) (pairZ 1 0) 2 2 1 0 1 1 (pairZ 0 2) 2 = 0 := by
  unfold coreE
  rw [lay_ok]
  kernel_rfl
theorem home_two : volC (homeN (pairZ (-2) 0) (pairZ 5 1073741825) (pairZ 4 3) (pairZ 1 0) (pairZ 1 7)) 2 0 = 2 := by kernel_rfl
theorem attr_ok : schE nmS (pairZ 0 0) (pairZ 3 1) 2 (fun _ => ⟨#[118]⟩) (fun _ => 2) 1 = 0 := by
  have hd : dimsZ nmS (pairZ 0 0) (pairZ 3 1) 2 = 0 := dims_ok _ _ (two (by decide) (by decide))
  have hn : nameB ⟨#[118]⟩ = true := by kernel_rfl
  have hi : inN [nmS 1, nmS 0] ⟨#[118]⟩ = false := inN_false.2 (by
    intro h
    rw [List.mem_cons, List.mem_singleton] at h
    rcases h with h | h <;> exact absurd h (by decide))
  unfold schE
  rw [hd, if_neg (by simp), if_neg (by omega)]
  show attrsTo [nmS 1, nmS 0] (fun _ => ⟨#[118]⟩) (fun _ => 2) 1 = 0
  simp only [attrsTo, metK, attrE, hn, hi, Bool.not_false, Bool.and_self, if_true]
  rw [if_neg (by omega)]
theorem check_ok : checkE nmS (pairZ 0 0) (pairZ 3 1) 2 (fun _ => ⟨#[118]⟩) (fun _ => 2) 1 4 (fun _ => 2) (fun _ => 1) xS vkS vnS vdS vsS = 0 := by
  unfold checkE manyE
  rw [attr_ok]
  kernel_rfl
theorem text_ok : dimsT nmS (pairZ 0 0) (pairZ 3 1) 2 ++ attrsT (fun _ => ⟨#[118]⟩) (fun _ => 2) 1 ++ rowsT (fun _ => 2) (fun _ => 1) xS vkS vnS vdS vsS 4 = [100, 105, 109, 32, 120, 32, 48, 58, 51, 10, 100, 105, 109, 32, 121, 32, 48, 58, 49, 10, 97, 116, 116, 114, 32, 118, 32, 105, 110, 116, 10, 48, 32, 48, 58, 32, 53, 10, 49, 32, 48, 58, 32, 55, 10, 49, 32, 49, 58, 32, 63, 49, 10, 51, 32, 49, 58, 32, 50, 10] := by kernel_rfl
end Go.Proofs.YtmhggphkhabjlaaGreatDoor
end
