/- The rank of coordinates in the Hilbert order. -/
import Derived.Test.YtkckoanphciddaaGreatDoorZSeq
import Derived.Test.YtkckoanphciddaaGreatDoorZBxA
import Derived.Test.YtkckoanphciddaaGreatDoorZKeysT
import Derived.Laws.EntriesVeiled
import Derived.Lib.ItoaNum

/- The rank of coordinates in the Hilbert order. -/
section
namespace Go.Proofs.YtkckoanphciddaaGreatDoor
open Go Go.RowKit Go.Deep Go.Shelf Go.Sort
attribute [local go_sem] Oper.semAt_some

set_option maxRecDepth 100000 in
set_option maxHeartbeats 8000000 in
theorem s_RankH (w : World) (S O L H X : Option Addr) (s sc o oc n c d xc : Nat) (tile form codec : Int) (lo hi : Nat → Int) (e : Nat → Nat) (t0 : Nat) (hl : IntsAt w L n lo) (hh : IntsAt w H n hi) (hx : IntsAt w X n (fun k => crdZ lo e n t0 k)) (h1 : 1 ≤ n) (h4 : n ≤ 4) (ho : ordB 2 tile = true)
    (hb : ∀ k, k < n → -1073741824 ≤ lo k ∧ lo k ≤ hi k ∧ hi k ≤ 1073741824 ∧ hi k - lo k < 4096) (he : ∀ k, k < n → 1 ≤ e k ∧ hi k = lo k + e k - 1) (hv : volO lo hi n ≤ 4096) (hv2 : volC e n 0 ≤ 4096) (hw : wdTo lo hi n ≤ 15) :
    Calls Tryz.prog 36 #[LayV S s sc O o oc 2 tile form codec, BoxW L H n c n d, .slice X n xc] w fun e' w' => e' = .returned (.tuple #[.int .i64 (cntTo (fun t => decide (hilK n (wdTo lo hi n) lo e t < hilK n (wdTo lo hi n) lo e t0)) (volC e n 0) : Nat), .int .i64 0]) ∧ Below w.heap.size w w' := by
  have hpos : ∀ k, k < n → 1 ≤ e k := fun k hk => (he k hk).1
  have hN1 : 1 ≤ volC e n 0 := volC_pos' hpos (Nat.zero_le _)
  have HOE : Hid (∀ W, Below w.heap.size w W → Calls Tryz.prog 84 #[LayV S s sc O o oc 2 tile form codec, BoxW L H n c n d, .int .i64 n] W fun e w' => e = .returned (.int .i64 0) ∧ Below W.heap.size W w') := fun W hW => s_orderError W S O L H s sc o oc n c d 2 tile form codec lo hi (hl.below hW) (hh.below hW) h1 h4 ho hb hv
  have HHa : Hid (∀ W, Below w.heap.size w W → Calls Tryz.prog 93 #[BoxW L H n c n d, .slice X n xc] W fun e w' => e = .returned (.bool true) ∧ Below W.heap.size W w') := fun W hW => (s_Has W L H X n c n d n xc lo hi _ (hl.below hW) (hh.below hW) (hx.below hW) (by omega) (by omega)).mono fun e' w' h => by
    rw [has_crd h1 h4 fun k hk => ⟨hpos k hk, (he k hk).2⟩] at h
    exact h
  have HCO : Hid (∀ W, Calls Tryz.prog 78 #[BoxW L H n c n d] W fun e w' => ∃ Bb, e = .returned (.func (.func 124) #[] #[.pointer (some ⟨Bb, 0, none⟩)]) ∧ Below W.heap.size W w' ∧ W.heap.size ≤ Bb ∧ Bb < w'.heap.size ∧ w'.heap[Bb]? = some (.cells #[.slice L n c, .slice H n d] 66 (0, 0))) := fun W => (c_coordinates W (.slice L n c) (.slice H n d)).mono fun e' w' h => by
    obtain ⟨rfl, rfl⟩ := h
    exact ⟨_, rfl, (Below.refl _ _).alloc (Nat.le_refl _) _, Nat.le_refl _, by simp, heap_alloc_new W _⟩
  have HKE : Hid (∀ W, Below w.heap.size w W → Calls Tryz.prog 86 #[LayV S s sc O o oc 2 tile form codec, BoxW L H n c n d] W fun e w' => e = .returned (.func (.func 130) #[FrmV L n c H n d tile (wdTo lo hi n : Nat)] #[]) ∧ Below W.heap.size W w') := fun W hW => s_keys W S O L H s sc o oc n c d tile form codec lo hi (hl.below hW) (hh.below hW) (by omega) (fun k hk => ⟨(hb k hk).1, (hb k hk).2.1, (hb k hk).2.2.1⟩)
  have HKy : Hid (∀ W (P : Option Addr) (cc t : Nat), Below w.heap.size w W → IntsAt W P n (fun k => crdZ lo e n t k) → Calls Tryz.prog 130 #[FrmV L n c H n d tile (wdTo lo hi n : Nat), .slice P n cc] W fun e' w' => e' = .returned (.int .i64 (hilK n (wdTo lo hi n) lo e t)) ∧ Below W.heap.size W w') := fun W P cc t hW hP => s_hilbert W L H P n c n d cc tile _ lo _ (hl.below hW) hP h1 h4 hw (fun k hk => by have h9 : lo k ≤ crdZ lo e n t k ∧ crdZ lo e n t k ≤ hi k := crd_inB (t := t) he k hk; have := hb k hk; show -1073741824 ≤ lo k ∧ lo k ≤ crdZ lo e n t k ∧ crdZ lo e n t k - lo k ≤ 1073741824; omega)
  have HEe : Hid (∀ k, k < n → 1 ≤ e k ∧ hi k = lo k + e k - 1 ∧ -1073741824 ≤ lo k ∧ hi k ≤ 4611686018427387904) := fun k hk => ⟨(he k hk).1, (he k hk).2, (hb k hk).1, by have := (hb k hk).2.2.1; omega⟩
  have HIt : Hid (∀ m, 1 ≤ m → ∀ Bb bl ol bh oh, L = some ⟨bl, ol, none⟩ → H = some ⟨bh, oh, none⟩ → IterOwn Fence.wide m Tryz.prog 124 #[.pointer (some ⟨Bb, 0, none⟩)] (ReadsBox Bb bl ol c bh oh d n lo hi) (CrdArg n lo e) (volC e n 0)) := fun m hm Bb bl ol bh oh _ _ => crd_iter m hm Bb bl ol c bh oh d n lo hi e h1 (by omega) (fun k hk => ⟨(he k hk).1, (he k hk).2, (hb k hk).1, by have := (hb k hk).2.2.1; omega⟩)
  have HLH := Lib.hid (And.intro hl (And.intro hh hx))
  have KB := Lib.hid (lay_box w S O s sc o oc 2 tile form codec)
  have HB1 : Hid (Below w.heap.size w (w.alloc (.cells #[.slice S s sc, .slice O o oc, .int .i64 2, .int .i64 tile, .int .i64 form, .int .i64 codec] 54))) := (Below.refl _ _).alloc (Nat.le_refl _) _
  have hz1 : (w.alloc (.cells #[.slice S s sc, .slice O o oc, .int .i64 2, .int .i64 tile, .int .i64 form, .int .i64 codec] 54)).heap.size = w.heap.size + 1 := by simp
  have hNm : volC e n 0 ≤ 1000000 := by omega
  clear hl hh hx ho hb hv hv2 hpos
  obtain ⟨N, hN⟩ : ∃ N, volC e n 0 = N := ⟨_, rfl⟩
  rw [hN] at hNm hN1 ⊢
  refine (callsIn_wide (n := 3)).1 ?_
  refine callsIn_of_wp_marks Tryz.func36 rfl trivial ?_ rfl
  simp only [Tryz.ntmps36, List.size_toArray, List.length_cons, List.length_nil, Nat.reduceAdd, Nat.reduceSub, Array.replicate_succ, Array.replicate_zero, List.push_toArray, List.append_toArray, List.nil_append, List.cons_append]
  gi_wp2_with fail
  generalize w.alloc (.cells #[.slice S s sc, .slice O o oc, .int .i64 2, .int .i64 tile, .int .i64 form, .int .i64 codec] 54) = Wa at *
  have K2 := Lib.hid (box_two Wa (.slice L n c) (.slice H n d) 66)
  have HB2 : Hid (Below Wa.heap.size Wa (Wa.alloc (.cells #[.slice L n c, .slice H n d] 66))) := (Below.refl _ _).alloc (Nat.le_refl _) _
  rw [hz1] at K2 HB2 KB
  have HB3 : Hid (Below w.heap.size w (Wa.alloc (.cells #[.slice L n c, .slice H n d] 66))) := Below.trans HB1.out (HB2.out.mono (by omega))
  generalize hWb : Wa.alloc (.cells #[.slice L n c, .slice H n d] 66) = Wb at *
  have hz2 : Wb.heap.size = w.heap.size + 2 := by rw [← hWb]; simp; omega
  clear hWb
  have KK : Hid (∀ W, Below Wb.heap.size Wb W → (W.cell? ⟨w.heap.size, 0, none⟩ = some (.slice S s sc) ∧ W.cell? ⟨w.heap.size, 1, none⟩ = some (.slice O o oc) ∧ W.cell? ⟨w.heap.size, 2, none⟩ = some (.int .i64 2) ∧ W.cell? ⟨w.heap.size, 3, none⟩ = some (.int .i64 tile) ∧ W.cell? ⟨w.heap.size, 4, none⟩ = some (.int .i64 form) ∧ W.cell? ⟨w.heap.size, 5, none⟩ = some (.int .i64 codec)) ∧ W.cell? ⟨w.heap.size + 1, 0, none⟩ = some (.slice L n c) ∧ W.cell? ⟨w.heap.size + 1, 1, none⟩ = some (.slice H n d)) := fun W hW => ⟨KB.out W (Below.trans HB2.out (hW.mono (by omega))), K2.out W hW⟩
  clear KB K2 HB1 HB2
  refine ⟨trivial, ?_⟩
  refine (callsIn_wide.2 (HOE.out _ HB3.out)).mono ?_
  rintro e1 w1 ⟨rfl, hb1⟩
  obtain ⟨⟨l0, l1, l2, l3, l4, l5⟩, m0, m1⟩ := KK.out w1 hb1
  gi_wp2_with fail
  refine ⟨trivial, ?_⟩
  refine (callsIn_wide.2 (HHa.out _ (st HB3.out hb1))).mono ?_
  rintro e2 w2 ⟨rfl, hb2⟩
  have hb12 := st hb1 hb2
  clear l0 l1 l2 l3 l4 l5 m0 m1
  obtain ⟨⟨l0, l1, l2, l3, l4, l5⟩, m0, m1⟩ := KK.out w2 hb12
  gi_wp2_with fail
  refine ⟨trivial, ?_⟩
  refine (callsIn_wide.2 (HKE.out _ (st HB3.out hb12))).mono ?_
  rintro e3 w3 ⟨rfl, hb3⟩
  have hb13 := st hb12 hb3
  clear l0 l1 l2 l3 l4 l5 m0 m1 hb1 hb2 hb3 hb12 HOE HHa HKE
  gi_wp2_with fail
  obtain ⟨hl, hh, hx⟩ := HLH.out
  obtain ⟨OWN, hOWN⟩ : ∃ OWN, hilK n (wdTo lo hi n) lo e t0 = OWN := ⟨_, rfl⟩
  have HOWN := Lib.hid hOWN
  have bk := Boxed.new w3 129 (.func (.func 130) #[FrmV L n c H n d tile (wdTo lo hi n : Nat)] #[])
  have hb4 : Below Wb.heap.size Wb (w3.alloc (.cells #[.func (.func 130) #[FrmV L n c H n d tile (wdTo lo hi n : Nat)] #[]] 129)) := st hb13 ((Below.refl _ _).alloc (Nat.le_refl _) _)
  have hg3 : w.heap.size + 2 ≤ w3.heap.size := by rw [← hz2]; exact hb13.size
  generalize hBk : w3.heap.size = Bk at *
  generalize w3.alloc (.cells #[.func (.func 130) #[FrmV L n c H n d tile (wdTo lo hi n : Nat)] #[]] 129) = w4 at *
  clear hb13 hBk
  refine ⟨trivial, ?_⟩
  refine (callsIn_wide.2 (HKy.out w4 X xc t0 (st HB3.out hb4) (hx.below (st HB3.out hb4)))).mono ?_
  rw [hOWN]
  rintro e4 w5 ⟨rfl, hb5⟩
  have hb45 := st hb4 hb5
  have bk5 : Boxed w5 Bk 129 (.func (.func 130) #[FrmV L n c H n d tile (wdTo lo hi n : Nat)] #[]) := (hb5.block _ (Array.getElem?_eq_some_iff.1 bk).1).trans bk
  clear bk hb4 hb5 hOWN hx
  have hz5 : w.heap.size + 2 ≤ w5.heap.size := by rw [← hz2]; exact hb45.size
  have HB6 : Hid (Below Wb.heap.size Wb ((w5.alloc (.cells #[.int .i64 OWN] 3)).alloc (.cells #[.int .i64 0] 3))) := (hb45.alloc hb45.size _).alloc (by have := hb45.size; simp; omega) _
  obtain ⟨-, m0, m1⟩ := KK.out _ HB6.out
  have bo6 := (Boxed.new w5 3 (.int .i64 OWN)).alloc (.cells #[.int .i64 0] 3)
  have br6 := Boxed.new (w5.alloc (.cells #[.int .i64 OWN] 3)) 3 (.int .i64 0)
  have bk6 := (bk5.alloc (.cells #[.int .i64 OWN] 3)).alloc (.cells #[.int .i64 0] 3)
  rw [World.size_alloc] at br6
  clear bk5
  gi_wp2_with fail
  clear m0 m1
  have hz6 : ((w5.alloc (.cells #[.int .i64 OWN] 3)).alloc (.cells #[.int .i64 0] 3)).heap.size = w5.heap.size + 2 := by simp
  generalize (w5.alloc (.cells #[.int .i64 OWN] 3)).alloc (.cells #[.int .i64 0] 3) = w6 at *
  generalize hB5 : w5.heap.size = B5 at *
  clear hB5 hb45
  refine ⟨trivial, ?_⟩
  refine (callsIn_wide.2 (HCO.out _)).mono ?_
  rintro e7 w7 ⟨Bb, rfl, hb7, hBb1, hBb2, hBb⟩
  have HB7 : Hid (Below Wb.heap.size Wb w7) := st HB6.out hb7
  have bo7 : Boxed w7 B5 3 (.int .i64 OWN) := (hb7.block _ (Array.getElem?_eq_some_iff.1 bo6).1).trans bo6
  have br7 : Boxed w7 (B5 + 1) 3 (.int .i64 0) := (hb7.block _ (Array.getElem?_eq_some_iff.1 br6).1).trans br6
  have bk7 : Boxed w7 Bk 129 (.func (.func 130) #[FrmV L n c H n d tile (wdTo lo hi n : Nat)] #[]) := (hb7.block _ (Array.getElem?_eq_some_iff.1 bk6).1).trans bk6
  have hB5l : B5 + 1 < w7.heap.size := (Array.getElem?_eq_some_iff.1 br7).1
  clear bo6 br6 bk6 hb7 HB6 HCO
  gi_wp2_with fail
  obtain ⟨bl, ol, rfl, hbl, hcl⟩ := hl (by omega)
  obtain ⟨bh, oh, rfl, hbh, hch⟩ := hh (by omega)
  have HLC : Hid (∀ W, Below w.heap.size w W → ∀ k, k < n → W.cell? ⟨bl, ol + k, none⟩ = some (.int .i64 (lo k)) ∧ W.cell? ⟨bh, oh + k, none⟩ = some (.int .i64 (hi k))) := fun W hW k hk => ⟨(hW.cell (p := ⟨bl, ol + k, none⟩) hbl).trans (hcl k hk), (hW.cell (p := ⟨bh, oh + k, none⟩) hbh).trans (hch k hk)⟩
  have HRd : Hid (∀ W, W.heap[Bb]? = some (.cells #[.slice (some ⟨bl, ol, none⟩) n c, .slice (some ⟨bh, oh, none⟩) n d] 66 (0, 0)) → Below w.heap.size w W → ReadsBox Bb bl ol c bh oh d n lo hi W) := fun W h1 h2 => ⟨by rw [cell_of_row _ _ _ _ _ _ h1]; rfl, by rw [cell_of_row _ _ _ _ _ _ h1]; rfl, HLC.out W h2⟩
  have hbw7 := st HB3.out HB7.out
  have HB7w : Hid (w.heap.size + 2 ≤ w7.heap.size) := by show _ ≤ _; rw [← hz2]; exact HB7.out.size
  have eg : ∀ args w, (callFunc 124 args).run Tryz.prog w = .ok (.enter 124 args) w := enters_of Tryz.func124 (by kernel_rfl) rfl
  have hBk7 : Bk < w7.heap.size := (Array.getElem?_eq_some_iff.1 bk7).1
  have HKc9 : Hid (∀ W (P : Option Addr) (cc t : Nat), Below w.heap.size w W → IntsAt W P n (fun k => crdZ lo e n t k) → Calls Tryz.prog 130 #[FrmV (some ⟨bl, ol, none⟩) n c (some ⟨bh, oh, none⟩) n d tile (wdTo lo hi n : Nat), .slice P n cc] W fun e' w' => e' = .returned (.int .i64 (hilK n (wdTo lo hi n) lo e t)) ∧ Below W.heap.size W w') := HKy.out
  clear hl hh hcl hch HLH HKy KK HB3 HB7 hz2 hz6 HIt
  have HIt : Hid (∀ m, 1 ≤ m → IterOwn Fence.wide m Tryz.prog 124 #[.pointer (some ⟨Bb, 0, none⟩)] (ReadsBox Bb bl ol c bh oh d n lo hi) (CrdArg n lo e) N) := by
    intro m hm
    rw [← hN]
    exact crd_iter m hm Bb bl ol c bh oh d n lo hi e h1 (by omega) HEe.out
  rename_i KO hKO
  refine wpIn_range_own (gf := 124) (lb := #[.pointer (some ⟨Bb, 0, none⟩)]) rfl (by omega) rfl trivial eg (HIt.out _ (by omega))
    (fun A k args W h => by obtain ⟨v, rfl, _⟩ := h; rfl)
    (fun W => Boxed W (B5 + 1) 3 (.int .i64 0) ∧ Boxed W B5 3 (.int .i64 OWN) ∧ Boxed W Bk 129 (.func (.func 130) #[FrmV (some ⟨bl, ol, none⟩) n c (some ⟨bh, oh, none⟩) n d tile (wdTo lo hi n : Nat)] #[]) ∧ W.heap[Bb]? = some (.cells #[.slice (some ⟨bl, ol, none⟩) n c, .slice (some ⟨bh, oh, none⟩) n d] 66 (0, 0)) ∧ Below w.heap.size w W)
    (fun A k W => RkAt w Bk B5 (B5 + 1) (.func (.func 130) #[FrmV (some ⟨bl, ol, none⟩) n c (some ⟨bh, oh, none⟩) n d tile (wdTo lo hi n : Nat)] #[]) OWN Bb (.slice (some ⟨bl, ol, none⟩) n c) (.slice (some ⟨bh, oh, none⟩) n d) (fun t => decide (hilK n (wdTo lo hi n) lo e t < OWN)) A k W)
    (fun _ _ _ => False)
    ?i0 (fun A k hA => rk_steps (by have := HB7w.out; omega) (by have := HB7w.out; omega)) (fun A c hA W W' row h => h.elim)
    ?hy (fun W h => HRd.out W h.2.2.2.1 h.2.2.2.2) (fun A k W h => HRd.out W h.box h.below) ⟨br7, bo7, bk7, hBb, hbw7⟩ ?start
    (fun args => { tmps := #[LayV S s sc O o oc 2 tile form codec, BoxW (some ⟨bl, ol, none⟩) (some ⟨bh, oh, none⟩) n c n d, .slice X n xc, .pointer (some ⟨w.heap.size, 0, none⟩), .pointer (some ⟨w.heap.size + 1, 0, none⟩), undef, .int .i64 0, .int .i64 0, .int .i64 0, .pointer (some ⟨Bk, 0, none⟩), .pointer (some ⟨B5, 0, none⟩), .pointer (some ⟨B5 + 1, 0, none⟩), args.getD 0 undef, .agg #[.slice S s sc, .slice O o oc, .int .i64 2, .int .i64 tile, .int .i64 form, .int .i64 codec], .agg #[.slice (some ⟨bl, ol, none⟩) n c, .slice (some ⟨bh, oh, none⟩) n d], .slice X n xc, .int .i64 n, .int .i64 0, .int .i64 0, .bool false, undef, .agg #[.slice (some ⟨bl, ol, none⟩) n c, .slice (some ⟨bh, oh, none⟩) n d], .slice X n xc, .bool true, .bool false, .agg #[.slice S s sc, .slice O o oc, .int .i64 2, .int .i64 tile, .int .i64 form, .int .i64 codec], .agg #[.slice (some ⟨bl, ol, none⟩) n c, .slice (some ⟨bh, oh, none⟩) n d], .func (.func 130) #[FrmV (some ⟨bl, ol, none⟩) n c (some ⟨bh, oh, none⟩) n d tile (wdTo lo hi n : Nat)] #[], .func (.func 130) #[FrmV (some ⟨bl, ol, none⟩) n c (some ⟨bh, oh, none⟩) n d tile (wdTo lo hi n : Nat)] #[], .slice X n xc, .int .i64 OWN, .agg #[.slice (some ⟨bl, ol, none⟩) n c, .slice (some ⟨bh, oh, none⟩) n d], .func (.func 124) #[] #[.pointer (some ⟨Bb, 0, none⟩)], args.getD 0 undef, undef, undef, undef, undef, undef, undef, undef, undef], defers := [] }) ?assign ?body ?done ?stop
  case i0 =>
    rintro _ W W' row ⟨i1, i2, i3, i4, i5⟩ hg hr
    have hne : ∀ {B : Nat} {cs : Array Value} {t : TypeId}, W.heap[B]? = some (.cells cs t (0, 0)) → some B ≠ row := fun {B cs t} h e => by
      obtain ⟨_, o, ho, hc⟩ := hr B e.symm
      rw [h] at ho; cases ho; cases hc
    exact ⟨i1.kept hg (hne i1), i2.kept hg (hne i2), i3.kept hg (hne i3), (hg.block Bb (Array.getElem?_eq_some_iff.1 i4).1 (hne i4)).trans i4, i5.grown hg i5.size (fun r e => by have := (hr r e).1; have := HB7w.out; omega)⟩
  case hy =>
    rintro ⟨A, k, args⟩ W W' row ⟨v, hv, h⟩ hg hr
    exact ⟨v, hv, crd_elem n lo e _ _ _ _ _ _ h hg fun r e => by obtain ⟨_, o, ho, hc⟩ := hr r e; exact .inr ⟨o, ho, fun cs h => by subst h; cases hc⟩⟩
  case start =>
    rintro A W ⟨i1, i2, i3, i4, i5⟩ hA hAl
    exact ⟨i1, i2, i3, i4, i5, by omega, by omega, by omega, by omega⟩
  case assign =>
    rintro l A k args W K ⟨v, rfl, h⟩ hK
    gi_wp2
    exact hK
  case body =>
    rintro l A k args W hk hA hAl HJ ⟨v, rfl, hv⟩
    obtain ⟨vp, vn, vc, rfl⟩ : ∃ p n c, v = .slice p n c := by obtain ⟨b, c, g, h, _⟩ := hv; exact ⟨_, _, _, h⟩
    obtain ⟨j1, j2, j3, j4, j5, j6⟩ := HJ
    have hbw := j5.size
    gi_wp2
    refine RW.r_less (g := 130) (fr := FrmV (some ⟨bl, ol, none⟩) n c (some ⟨bh, oh, none⟩) n d tile (wdTo lo hi n : Nat)) (vp := vp) (vn := vn) (vc := vc) (ky := hilK n (wdTo lo hi n) lo e k) (own := OWN) (Bk := Bk) (Bo := B5) rfl rfl rfl (dag_of (by kernel_rfl)) (by kernel_rfl) rfl rfl rfl rfl rfl rfl rfl rfl rfl (by kernel_rfl) (by kernel_rfl) rfl rfl rfl rfl rfl rfl (by kernel_rfl) (by kernel_rfl) rfl rfl rfl
      (fun W' hW => (j3.kept (grown_below hW) (by simp)).cell) (fun W' hW => (j2.kept (grown_below hW) (by simp)).cell) (enters_of Tryz.func130 (by kernel_rfl) rfl)
      (fun W' hW => ?_) ?_
    · obtain ⟨P, cc, hx, hP⟩ := crd_ints (crd_elem n lo e _ _ _ _ _ _ hv (grown_below hW) (fun r e => by cases e))
      injection hx with hx1 hx2 hx3
      subst hx1 hx2 hx3
      exact HKc9.out W' _ _ k (j5.trans (hW.mono (by omega))) hP
    · intro a' W' hW hsz hdf h38 h11
      have B2 := j2.kept (grown_below hW) (by simp)
      have B1 := j1.kept (grown_below hW) (by simp)
      have B3 := j3.kept (grown_below hW) (by simp)
      have B4 := (hW.block Bb (Array.getElem?_eq_some_iff.1 j4).1).trans j4
      have B5' : Below w.heap.size w W' := j5.trans (hW.mono (by omega))
      obtain ⟨f, hf, rfl⟩ := actlitf 42 a' hsz (hdf.trans rfl)
      rw [show List.range 42 = [0, 1, 2, 3, 4, 5, 6, 7, 8, 9, 10, 11, 12, 13, 14, 15, 16, 17, 18, 19, 20, 21, 22, 23, 24, 25, 26, 27, 28, 29, 30, 31, 32, 33, 34, 35, 36, 37, 38, 39, 40, 41] from rfl]
      simp only [List.map_cons, List.map_nil]
      have q38 : f 38 = .bool (decide (hilK n (wdTo lo hi n) lo e k < OWN)) := (hf 38).symm.trans h38
      have q11 : f 11 = .pointer (some ⟨B5 + 1, 0, none⟩) := (hf 11).symm.trans h11
      rw [q38, q11]
      clear q38 q11 h38 h11 hf hsz hdf
      have c1 := B1.cell
      have z1 := B1.frozen
      have hAW : A < W'.heap.size := by have := hW.size; omega
      by_cases hp : hilK n (wdTo lo hi n) lo e k < OWN
      · have hpT : (fun t => decide (hilK n (wdTo lo hi n) lo e t < OWN)) k = true := decide_eq_true hp
        rw [decide_eq_true hp]
        have hcle : cntTo (fun t => decide (hilK n (wdTo lo hi n) lo e t < OWN)) k ≤ 1000000 := Nat.le_trans (cntTo_le _ _) (by omega)
        have HC := cntTo_yes (p := fun t => decide (hilK n (wdTo lo hi n) lo e t < OWN)) (k := k) hpT
        generalize hCC : cntTo (fun t => decide (hilK n (wdTo lo hi n) lo e t < OWN)) k = CC at *
        gi_wp2
        have gs := grownBy_setCell' W' (B5 + 1) (.int .i64 ((CC : Int) + 1))
        have hWl : B5 + 1 < W'.heap.size := (Array.getElem?_eq_some_iff.1 B1).1
        have n3 : Bk ≠ B5 + 1 := apart_t B3 B1 (by decide)
        have n4 : Bb ≠ B5 + 1 := apart_t B4 B1 (by decide)
        have nA : A ≠ B5 + 1 := fun e => by have := j6.2.2.1; omega
        refine ⟨(keeps_below hW).trans (KeepsOthers.setCell _ _ _), (gs.block A hAW (by simpa using nA)).trans (hW.block A hAl), ?_, B2.kept gs (by simp), B3.kept gs (by simpa using n3), (gs.block Bb (Array.getElem?_eq_some_iff.1 B4).1 (by simpa using n4)).trans B4, B5'.setCell (by show w.heap.size ≤ B5 + 1; have := HB7w.out; omega) _, j6⟩
        rw [HC]
        exact B1.set _
      · have hpF : (fun t => decide (hilK n (wdTo lo hi n) lo e t < OWN)) k = false := decide_eq_false hp
        rw [decide_eq_false hp]
        have HC := cntTo_no (p := fun t => decide (hilK n (wdTo lo hi n) lo e t < OWN)) (k := k) hpF
        gi_wp2
        exact ⟨keeps_below hW, hW.block A hAl, by rw [HC]; exact B1, B2, B3, B4, B5', j6⟩
  case done =>
    rintro D A W hD HJ hK
    obtain ⟨j1, j2, j3, j4, j5, j6⟩ := HJ
    have c1 := j1.cell
    refine hKO _ _ ?_
    gi_wp2
    refine ⟨by simp, .inl ⟨_, _, rfl, run_takeDeferred hK, ?_⟩⟩
    refine ⟨.tuple #[.int .i64 (cntTo (fun t => decide (hilK n (wdTo lo hi n) lo e t < OWN)) N : Nat), .int .i64 0], by simp [results, Tryz.results36, go_sem], by rw [← HOWN.out], j5.trans (belowK_b (w := w) (Nat.le_refl _) W D _ _ (by have := HB7w.out; omega) hK rfl rfl)⟩
  case stop => exact fun D A c W hD h => h.elim
end Go.Proofs.YtkckoanphciddaaGreatDoor
end

/- Different coordinates have different Hilbert keys. -/
section
namespace Go.Proofs.YtkckoanphciddaaGreatDoor

theorem bit_test (y q : Nat) : (bitN y q == 1) = y.testBit q := by
  unfold bitN
  rw [Nat.testBit_eq_decide_div_mod_eq]
  by_cases h : y / 2 ^ q % 2 = 1 <;> simp [h]
/-- Two lists of numbers agree at the first n places. -/
def AgN (n : Nat) (Y Z : Nat → Nat) : Prop := ∀ j, j < n → Y j = Z j
theorem low_test (q : Nat) : (2 ^ q - 1).testBit q = false := by rw [Nat.testBit_two_pow_sub_one]; simp
theorem bit_keep {x d q : Nat} (h : d.testBit q = false) : (bitN (x ^^^ d) q == 1) = (bitN x q == 1) := by
  rw [bit_test, bit_test, Nat.testBit_xor, h, Bool.xor_false]
theorem xor_back (x d : Nat) : x ^^^ d ^^^ d = x := by rw [Nat.xor_assoc, Nat.xor_self, Nat.xor_zero]
theorem updN_self (f : Nat → Nat) (k v : Nat) : updN f k v k = v := if_pos rfl
theorem updN_ne (f : Nat → Nat) {k j : Nat} (v : Nat) (h : j ≠ k) : updN f k v j = f j := if_neg h
theorem stepH_yes {q k : Nat} {Y : Nat → Nat} (h : (bitN (Y k) q == 1) = true) : stepH q Y k = updN Y 0 (Y 0 ^^^ (2 ^ q - 1)) := by
  unfold stepH; rw [h]; rfl
theorem stepH_no {q k : Nat} {Y : Nat → Nat} (h : (bitN (Y k) q == 1) = false) (hk : k ≠ 0) : ∀ j, stepH q Y k j = if j = k then Y k ^^^ ((Y 0 ^^^ Y k) &&& (2 ^ q - 1)) else if j = 0 then Y 0 ^^^ ((Y 0 ^^^ Y k) &&& (2 ^ q - 1)) else Y j := by
  intro j
  unfold stepH
  rw [h, cond_false]
  unfold updN
  by_cases e : j = k
  · rw [if_pos e, if_pos e, if_neg hk]
  · rw [if_neg e, if_neg e]
theorem stepH_zero {q : Nat} {Y : Nat → Nat} (h : (bitN (Y 0) q == 1) = false) : ∀ j, stepH q Y 0 j = Y j := by
  intro j
  unfold stepH
  rw [h, cond_false]
  unfold updN
  by_cases e : j = 0
  · rw [if_pos e, if_pos rfl, Nat.xor_self, Nat.zero_and, Nat.xor_zero, Nat.xor_zero, e]
  · rw [if_neg e, if_neg e]
/-- A turn's step undoes itself. -/
theorem stepH_inv (q k : Nat) (Y : Nat → Nat) : ∀ j, stepH q (stepH q Y k) k j = Y j := by
  intro j
  cases h : (bitN (Y k) q == 1)
  · by_cases hk : k = 0
    · subst hk
      have h1 := stepH_zero h
      have h2 : (bitN (stepH q Y 0 0) q == 1) = false := by rw [h1]; exact h
      rw [stepH_zero h2, h1]
    · have h1 := stepH_no h hk
      have hl : ((Y 0 ^^^ Y k) &&& (2 ^ q - 1)).testBit q = false := by rw [Nat.testBit_and, low_test, Bool.and_false]
      have a0 : stepH q Y k 0 = Y 0 ^^^ ((Y 0 ^^^ Y k) &&& (2 ^ q - 1)) := by rw [h1, if_neg (fun e => hk e.symm), if_pos rfl]
      have ak : stepH q Y k k = Y k ^^^ ((Y 0 ^^^ Y k) &&& (2 ^ q - 1)) := by rw [h1, if_pos rfl]
      have h2 : (bitN (stepH q Y k k) q == 1) = false := by rw [ak, bit_keep hl]; exact h
      rw [stepH_no h2 hk, a0, ak]
      have hd : (Y 0 ^^^ ((Y 0 ^^^ Y k) &&& (2 ^ q - 1))) ^^^ (Y k ^^^ ((Y 0 ^^^ Y k) &&& (2 ^ q - 1))) = Y 0 ^^^ Y k := by
        generalize (Y 0 ^^^ Y k) &&& (2 ^ q - 1) = d
        apply Nat.eq_of_testBit_eq
        intro i
        simp only [Nat.testBit_xor]
        cases (Y 0).testBit i <;> cases (Y k).testBit i <;> cases d.testBit i <;> rfl
      rw [hd, xor_back, xor_back]
      by_cases e : j = k
      · rw [if_pos e, e]
      · rw [if_neg e]
        by_cases e0 : j = 0
        · rw [if_pos e0, e0]
        · rw [if_neg e0, h1, if_neg e, if_neg e0]
  · have h1 := stepH_yes h
    have hk : stepH q Y k k = if k = 0 then Y 0 ^^^ (2 ^ q - 1) else Y k := by rw [h1]; rfl
    have h2 : (bitN (stepH q Y k k) q == 1) = true := by
      rw [hk]
      by_cases e : k = 0
      · subst e; rw [if_pos rfl, bit_keep (low_test q)]; exact h
      · rw [if_neg e]; exact h
    rw [stepH_yes h2, h1]
    by_cases e : j = 0
    · subst e; rw [updN_self, updN_self, xor_back]
    · rw [updN_ne _ _ e, updN_ne _ _ e]
theorem stepH_congr {q k n : Nat} {Y Z : Nat → Nat} (hk : k < n) (h : AgN n Y Z) : AgN n (stepH q Y k) (stepH q Z k) := by
  intro j hj
  have h0 := h 0 (by omega)
  have hk' := h k hk
  have hj' := h j hj
  unfold stepH updN
  rw [hk', h0]
  cases (bitN (Z k) q == 1) <;> simp only [cond_true, cond_false] <;> rw [hj']
theorem stepH_inj {q k n : Nat} {Y Z : Nat → Nat} (hk : k < n) (h : AgN n (stepH q Y k) (stepH q Z k)) : AgN n Y Z := fun j hj => by
  rw [← stepH_inv q k Y j, ← stepH_inv q k Z j]
  exact stepH_congr hk h j hj
theorem turnTo_inj {q n : Nat} {Y Z : Nat → Nat} : ∀ k, k ≤ n → AgN n (turnTo q Y k) (turnTo q Z k) → AgN n Y Z
  | 0, _, h => h
  | k + 1, hk, h => turnTo_inj k (by omega) (stepH_inj (by omega) h)
theorem turnsW_inj {n : Nat} : ∀ (q : Nat) {Y Z : Nat → Nat}, AgN n (turnsW n q Y) (turnsW n q Z) → AgN n Y Z
  | 0, _, _, h => h
  | q + 1, _, _, h => turnTo_inj n (Nat.le_refl _) (turnsW_inj q h)
theorem xor_cancel {a b c : Nat} (h : a ^^^ c = b ^^^ c) : a = b := by rw [← xor_back a c, h, xor_back]
theorem grayTo_inj {n : Nat} {Y Z : Nat → Nat} : ∀ k, k < n → AgN n (grayTo Y k) (grayTo Z k) → AgN n Y Z
  | 0, _, h => h
  | k + 1, hk, h => grayTo_inj k (by omega) fun j hj => by
    have hkk := h k (by omega)
    rw [grayTo, grayTo, updN_ne _ _ (by omega), updN_ne _ _ (by omega)] at hkk
    by_cases e : j = k + 1
    · subst e
      have h1 := h (k + 1) hj
      rw [grayTo, grayTo, updN_self, updN_self, hkk] at h1
      exact xor_cancel h1
    · have h1 := h j hj
      rw [grayTo, grayTo, updN_ne _ _ e, updN_ne _ _ e] at h1
      exact h1
theorem xorTo_at (t : Nat) (Y : Nat → Nat) : ∀ k j, xorTo t Y k j = if j < k then Y j ^^^ t else Y j
  | 0, j => by rw [if_neg (Nat.not_lt_zero j)]; rfl
  | k + 1, j => by
    rw [xorTo]
    by_cases e : j = k
    · subst e
      rw [updN_self, xorTo_at t Y j j, if_neg (Nat.lt_irrefl j), if_pos (Nat.lt_succ_self j)]
    · rw [updN_ne _ _ e, xorTo_at t Y k j]
      by_cases h : j < k
      · rw [if_pos h, if_pos (by omega)]
      · rw [if_neg h, if_neg (by omega)]
theorem tW_bit {y z i : Nat} (h : ∀ q, i < q → y.testBit q = z.testBit q) : ∀ p t u, t.testBit i = u.testBit i → (tW y p t).testBit i = (tW z p u).testBit i
  | 0, _, _, ht => ht
  | p + 1, t, u, ht => by
    rw [tW, tW]
    apply tW_bit h
    rw [bit_test, bit_test]
    by_cases hi : i < p + 1
    · rw [h (p + 1) hi]
      cases z.testBit (p + 1)
      · exact ht
      · rw [cond_true, cond_true, Nat.testBit_xor, Nat.testBit_xor, ht]
    · have hz : (2 ^ (p + 1) - 1).testBit i = false := by rw [Nat.testBit_two_pow_sub_one]; simpa using hi
      have : ∀ (b : Bool) (x : Nat), (bif b then x ^^^ (2 ^ (p + 1) - 1) else x).testBit i = x.testBit i := fun b x => by
        cases b
        · rfl
        · rw [cond_true, Nat.testBit_xor, hz, Bool.xor_false]
      rw [this, this, ht]
theorem tW_high {y i : Nat} : ∀ p t, p ≤ i → (tW y p t).testBit i = t.testBit i
  | 0, _, _ => rfl
  | p + 1, t, hi => by
    rw [tW, tW_high p _ (by omega)]
    have hz : (2 ^ (p + 1) - 1).testBit i = false := by rw [Nat.testBit_two_pow_sub_one]; simpa using hi
    cases (bitN y (p + 1) == 1)
    · rfl
    · rw [cond_true, Nat.testBit_xor, hz, Bool.xor_false]
theorem tW_inj {y z p : Nat} (h : y ^^^ tW y p 0 = z ^^^ tW z p 0) : y = z := by
  have key : ∀ m i, p ≤ i + m → y.testBit i = z.testBit i := by
    intro m
    induction m with
    | zero =>
      intro i hi
      have h1 := congrArg (fun x => Nat.testBit x i) h
      simp only [Nat.testBit_xor] at h1
      rw [tW_high p 0 (by omega), tW_high p 0 (by omega)] at h1
      simpa using h1
    | succ m ih =>
      intro i hi
      have h1 := congrArg (fun x => Nat.testBit x i) h
      simp only [Nat.testBit_xor] at h1
      rw [tW_bit (z := z) (fun q hq => ih q (by omega)) p 0 0 rfl] at h1
      cases hy : y.testBit i <;> cases hz : z.testBit i <;> rw [hy, hz] at h1 <;> cases hT : (tW z p 0).testBit i <;> rw [hT] at h1 <;> first | rfl | (exact absurd h1 (by decide))
  exact Nat.eq_of_testBit_eq fun i => key p i (by omega)
theorem intl_inj {Y Z : Nat → Nat} {q : Nat} : ∀ {n a b : Nat}, intl Y q a n = intl Z q b n → a = b ∧ ∀ k, k < n → bitN (Y k) q = bitN (Z k) q
  | 0, _, _, h => ⟨h, fun k hk => absurd hk (Nat.not_lt_zero k)⟩
  | n + 1, a, b, h => by
    rw [intl, intl] at h
    have h1 := bitN_lt (Y n) q
    have h2 := bitN_lt (Z n) q
    obtain ⟨h3, h4⟩ := intl_inj (n := n) (a := a) (b := b) (show intl Y q a n = intl Z q b n by omega)
    refine ⟨h3, fun k hk => ?_⟩
    by_cases e : k = n
    · subst e; omega
    · exact h4 k (by omega)
theorem intlW_inj {Y Z : Nat → Nat} {n : Nat} : ∀ {w a b : Nat}, intlW Y n w a = intlW Z n w b → a = b ∧ ∀ q, q < w → ∀ k, k < n → bitN (Y k) q = bitN (Z k) q
  | 0, _, _, h => ⟨h, fun q hq => absurd hq (Nat.not_lt_zero q)⟩
  | w + 1, a, b, h => by
    rw [intlW, intlW] at h
    obtain ⟨h1, h2⟩ := intlW_inj h
    obtain ⟨h3, h4⟩ := intl_inj h1
    refine ⟨h3, fun q hq k hk => ?_⟩
    by_cases e : q = w
    · subst e; exact h4 k hk
    · exact h2 q (by omega) k hk
def LtN (n w : Nat) (Y : Nat → Nat) : Prop := ∀ j, j < n → Y j < 2 ^ w
theorem low_le {q w : Nat} (h : q ≤ w) : 2 ^ q - 1 < 2 ^ w := Nat.lt_of_lt_of_le (Nat.sub_lt (Nat.two_pow_pos q) (by decide)) (Nat.pow_le_pow_right (by decide) h)
theorem updN_ltN {n w k v : Nat} {Y : Nat → Nat} (h : LtN n w Y) (hv : v < 2 ^ w) : LtN n w (updN Y k v) := fun j hj => by
  unfold updN
  split
  · exact hv
  · exact h j hj
theorem stepH_ltN {n w q k : Nat} {Y : Nat → Nat} (h : LtN n w Y) (hq : q ≤ w) (hk : k < n) : LtN n w (stepH q Y k) := by
  have h0 := h 0 (by omega)
  have hk' := h k hk
  have hd : (Y 0 ^^^ Y k) &&& (2 ^ q - 1) < 2 ^ w := Nat.lt_of_le_of_lt Nat.and_le_right (low_le hq)
  unfold stepH
  cases bitN (Y k) q == 1
  · rw [cond_false]
    have h1 : LtN n w (updN Y 0 (Y 0 ^^^ ((Y 0 ^^^ Y k) &&& (2 ^ q - 1)))) := updN_ltN h (Nat.xor_lt_two_pow h0 hd)
    exact updN_ltN h1 (Nat.xor_lt_two_pow (h1 k hk) hd)
  · rw [cond_true]
    exact updN_ltN h (Nat.xor_lt_two_pow h0 (low_le hq))
theorem turnTo_ltN {n w q : Nat} {Y : Nat → Nat} (h : LtN n w Y) (hq : q ≤ w) : ∀ k, k ≤ n → LtN n w (turnTo q Y k)
  | 0, _ => h
  | k + 1, hk => stepH_ltN (turnTo_ltN h hq k (by omega)) hq (by omega)
theorem turnsW_ltN {n w : Nat} : ∀ (q : Nat) {Y : Nat → Nat}, LtN n w Y → q ≤ w → LtN n w (turnsW n q Y)
  | 0, _, h, _ => h
  | q + 1, _, h, hq => turnsW_ltN q (turnTo_ltN h hq n (Nat.le_refl _)) (by omega)
theorem grayTo_ltN {n w : Nat} {Y : Nat → Nat} (h : LtN n w Y) : ∀ k, k < n → LtN n w (grayTo Y k)
  | 0, _ => h
  | k + 1, hk => by
    have ih := grayTo_ltN h k (by omega)
    exact updN_ltN ih (Nat.xor_lt_two_pow (ih (k + 1) hk) (ih k (by omega)))
theorem tW_lt {y w : Nat} : ∀ p t, p ≤ w → t < 2 ^ w → tW y p t < 2 ^ w
  | 0, _, _, h => h
  | p + 1, t, hp, h => by
    rw [tW]
    apply tW_lt p _ (by omega)
    cases bitN y (p + 1) == 1
    · exact h
    · exact Nat.xor_lt_two_pow h (low_le hp)
theorem bits_all {a b w : Nat} (ha : a < 2 ^ w) (hb : b < 2 ^ w) (h : ∀ q, q < w → bitN a q = bitN b q) : a = b := by
  apply Nat.eq_of_testBit_eq
  intro i
  by_cases hi : i < w
  · rw [← bit_test, ← bit_test, h i hi]
  · rw [Nat.testBit_lt_two_pow (Nat.lt_of_lt_of_le ha (Nat.pow_le_pow_right (by decide) (by omega))), Nat.testBit_lt_two_pow (Nat.lt_of_lt_of_le hb (Nat.pow_le_pow_right (by decide) (by omega)))]
/-- The key determines the numbers. -/
theorem hilN_inj {n wd : Nat} {Y Z : Nat → Nat} (hn : 1 ≤ n) (hY : LtN n wd Y) (hZ : LtN n wd Z) (h : hilN n wd Y = hilN n wd Z) : AgN n Y Z := by
  unfold hilN at h
  have gY := grayTo_ltN (turnsW_ltN (wd - 1) hY (by omega)) (n - 1) (by omega)
  have gZ := grayTo_ltN (turnsW_ltN (wd - 1) hZ (by omega)) (n - 1) (by omega)
  refine turnsW_inj (wd - 1) (grayTo_inj (n - 1) (by omega) ?_)
  generalize grayTo (turnsW n (wd - 1) Y) (n - 1) = A at *
  generalize grayTo (turnsW n (wd - 1) Z) (n - 1) = B at *
  have hb := (intlW_inj h).2
  have hx : ∀ j, j < n → A j ^^^ tW (A (n - 1)) (wd - 1) 0 = B j ^^^ tW (B (n - 1)) (wd - 1) 0 := fun j hj => by
    have tl : ∀ y, tW y (wd - 1) 0 < 2 ^ wd := fun y => tW_lt _ _ (by omega) (Nat.two_pow_pos wd)
    refine bits_all (Nat.xor_lt_two_pow (gY j hj) (tl _)) (Nat.xor_lt_two_pow (gZ j hj) (tl _)) fun q hq => ?_
    have h1 := hb q hq j hj
    rw [xorTo_at, xorTo_at, if_pos hj, if_pos hj] at h1
    exact h1
  have he : A (n - 1) = B (n - 1) := tW_inj (hx (n - 1) (by omega))
  intro j hj
  have h1 := hx j hj
  rw [he] at h1
  exact xor_cancel h1
theorem intlW_lt {Y : Nat → Nat} {n : Nat} : ∀ {w e key : Nat}, key < 2 ^ e → intlW Y n w key < 2 ^ (e + n * w)
  | 0, _, _, h => h
  | w + 1, e, key, h => by
    rw [intlW]
    have := intlW_lt (Y := Y) (n := n) (w := w) (intl_lt (Y := Y) (q := w) h n)
    rwa [Nat.add_assoc, show n + n * w = n * (w + 1) by rw [Nat.mul_succ, Nat.add_comm]] at this
theorem hilN_lt (n wd : Nat) (Y : Nat → Nat) : hilN n wd Y < 2 ^ (n * wd) := by
  have := intlW_lt (Y := xorTo (tW (grayTo (turnsW n (wd - 1) Y) (n - 1) (n - 1)) (wd - 1) 0) (grayTo (turnsW n (wd - 1) Y) (n - 1)) n) (n := n) (w := wd) (e := 0) (key := 0) (by decide)
  rwa [Nat.zero_add] at this
end Go.Proofs.YtkckoanphciddaaGreatDoor
end

/- Numbers of coordinates: volumes, widths, and that the keys of an order differ. -/
section
namespace Go.Proofs.YtkckoanphciddaaGreatDoor
open Go Go.RowKit Go.Deep Go.Shelf

theorem volO_volC {lo hi : Nat → Int} {e : Nat → Nat} {n : Nat} (he : ∀ k, k < n → 1 ≤ e k ∧ hi k = lo k + e k - 1) : ∀ k, k ≤ n → volO lo hi k * volC e n k = volC e n 0
  | 0, _ => by show 1 * _ = _; rw [Nat.one_mul]
  | k + 1, hk => by
    have ih := volO_volC he k (by omega)
    have h1 := he k (by omega)
    have h2 : (hi k - lo k + 1).toNat = e k := by omega
    rw [volC_step (k := k) (by omega)] at ih
    show volO lo hi k * (hi k - lo k + 1).toNat * _ = _
    rw [h2, Nat.mul_assoc]
    exact ih
theorem volO_all {lo hi : Nat → Int} {e : Nat → Nat} {n : Nat} (he : ∀ k, k < n → 1 ≤ e k ∧ hi k = lo k + e k - 1) : volO lo hi n = volC e n 0 := by
  have := volO_volC he n (Nat.le_refl _)
  rwa [volC_end, Nat.mul_one] at this
theorem bit_len_lt {x : Nat} (h : x < 2 ^ 64) : x < 2 ^ Lib.bitLen x := by
  by_cases h0 : x = 0
  · subst h0; exact Nat.two_pow_pos _
  · exact (Lib.bitLenAux_bounds 64 x h h0).2.2
theorem wd_ge {lo hi : Nat → Int} : ∀ {n k : Nat}, k < n → Lib.bitLen (hi k - lo k).toNat ≤ wdTo lo hi n
  | 0, _, h => absurd h (Nat.not_lt_zero _)
  | n + 1, k, h => by
    rw [wdTo]
    by_cases e : k = n
    · subst e; exact Nat.le_max_right _ _
    · exact Nat.le_trans (wd_ge (show k < n by omega)) (Nat.le_max_left _ _)
theorem wd_le {lo hi : Nat → Int} {b : Nat} (hb : b ≤ 64) : ∀ {n : Nat}, (∀ k, k < n → (hi k - lo k).toNat < 2 ^ b) → wdTo lo hi n ≤ b
  | 0, _ => Nat.zero_le _
  | n + 1, h => by
    rw [wdTo]
    exact Nat.max_le.2 ⟨wd_le hb fun k hk => h k (by omega), Lib.bitLen_le _ _ hb (h n (Nat.lt_succ_self n))⟩
theorem crd_dig {lo : Nat → Int} {e : Nat → Nat} {n t k : Nat} : (crdZ lo e n t k - lo k).toNat = digC e n t k := by unfold crdZ; omega
/-- The row-major key is the number itself. -/
theorem rm_num {lo hi : Nat → Int} {e : Nat → Nat} {n t : Nat} (he : ∀ k, k < n → 1 ≤ e k ∧ hi k = lo k + e k - 1) (ht : t < volC e n 0) : ∀ k, k ≤ n → rmZ lo hi (fun k => crdZ lo e n t k) k = (t / volC e n k : Nat)
  | 0, _ => by rw [Nat.div_eq_of_lt ht]; rfl
  | k + 1, hk => by
    have ih := rm_num he ht k (by omega)
    obtain ⟨h1, h2⟩ := he k (by omega)
    have hv := volC_step (e := e) (n := n) (k := k) (by omega)
    have hd : crdZ lo e n t k - lo k = (t / volC e n (k + 1) % e k : Nat) := by unfold crdZ digC; omega
    have hdm : e k * (t / volC e n (k + 1) / e k) + t / volC e n (k + 1) % e k = t / volC e n (k + 1) := Nat.div_add_mod _ _
    rw [rmZ, ih, hd, show hi k - lo k + 1 = (e k : Int) by omega, hv, Nat.mul_comm (e k), ← Nat.div_div_eq_div_mul]
    rw [← Int.natCast_mul, ← Int.natCast_add, Nat.mul_comm]
    exact congrArg _ hdm
theorem rmK_num {lo hi : Nat → Int} {e : Nat → Nat} {n t : Nat} (he : ∀ k, k < n → 1 ≤ e k ∧ hi k = lo k + e k - 1) (ht : t < volC e n 0) : rmK n lo hi e t = t := by
  unfold rmK
  rw [rm_num he ht n (Nat.le_refl _), volC_end, Nat.div_one]
theorem rmK_inj {lo hi : Nat → Int} {e : Nat → Nat} {n : Nat} (he : ∀ k, k < n → 1 ≤ e k ∧ hi k = lo k + e k - 1) : ∀ s t, s < volC e n 0 → t < volC e n 0 → rmK n lo hi e s = rmK n lo hi e t → s = t := fun s t hs ht h => by
  rw [rmK_num he hs, rmK_num he ht] at h
  omega
theorem tlK_inj {lo hi : Nat → Int} {tile : Int} {e : Nat → Nat} {n : Nat} (he : ∀ k, k < n → 1 ≤ e k ∧ hi k = lo k + e k - 1) (hv : volC e n 0 ≤ 4096) : ∀ s t, s < volC e n 0 → t < volC e n 0 → tlK n lo hi tile e s = tlK n lo hi tile e t → s = t := fun s t hs ht h => by
  have h1 := rmK_num he hs
  have h2 := rmK_num he ht
  unfold rmK at h1 h2
  unfold tlK at h
  rw [h1, h2] at h
  omega
theorem dig_inj {e : Nat → Nat} {n s t : Nat} (hs : s < volC e n 0) (ht : t < volC e n 0) (h : ∀ k, k < n → digC e n s k = digC e n t k) : s = t := by
  have key : ∀ k, k ≤ n → s / volC e n k = t / volC e n k := by
    intro k
    induction k with
    | zero => intro _; rw [Nat.div_eq_of_lt hs, Nat.div_eq_of_lt ht]
    | succ k ih =>
      intro hk
      have h1 := ih (by omega)
      have h2 := h k (by omega)
      unfold digC at h2
      rw [volC_step (k := k) (by omega), Nat.mul_comm, ← Nat.div_div_eq_div_mul, ← Nat.div_div_eq_div_mul] at h1
      rw [← Nat.div_add_mod (s / volC e n (k + 1)) (e k), ← Nat.div_add_mod (t / volC e n (k + 1)) (e k), h1, h2]
  have := key n (Nat.le_refl _)
  rwa [volC_end, Nat.div_one, Nat.div_one] at this
theorem hilK_inj {lo hi : Nat → Int} {e : Nat → Nat} {n : Nat} (hn : 1 ≤ n) (he : ∀ k, k < n → 1 ≤ e k ∧ hi k = lo k + e k - 1 ∧ e k ≤ 4096) : ∀ s t, s < volC e n 0 → t < volC e n 0 → hilK n (wdTo lo hi n) lo e s = hilK n (wdTo lo hi n) lo e t → s = t := fun s t hs ht h => by
  have hl : ∀ t, LtN n (wdTo lo hi n) (fun k => if k < n then (crdZ lo e n t k - lo k).toNat else 0) := fun t k hk => by
    show (if k < n then _ else 0) < _
    rw [if_pos hk, crd_dig]
    have h1 := he k hk
    have h2 := digC_lt (t := t) (fun k hk => (he k hk).1) hk
    have h3 : (hi k - lo k).toNat < 2 ^ Lib.bitLen (hi k - lo k).toNat := bit_len_lt (Nat.lt_of_le_of_lt (show _ ≤ 4096 by omega) (by decide))
    have h4 := Nat.pow_le_pow_right (n := 2) (by decide) (wd_ge (lo := lo) (hi := hi) hk)
    omega
  unfold hilK at h
  have ha := hilN_inj hn (hl s) (hl t) (by exact_mod_cast h)
  refine dig_inj hs ht fun k hk => ?_
  have := ha k hk
  simp only [if_pos hk, crd_dig] at this
  exact this
end Go.Proofs.YtkckoanphciddaaGreatDoor
end
