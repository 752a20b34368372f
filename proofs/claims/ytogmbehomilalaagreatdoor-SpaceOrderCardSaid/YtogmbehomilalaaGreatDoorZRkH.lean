/- The rank of coordinates in the tiled order. -/
import Derived.Test.YtogmbehomilalaaGreatDoorZSeqT
import Derived.Test.YtogmbehomilalaaGreatDoorZRfC
import Derived.Test.YtogmbehomilalaaGreatDoorZRfLa
import Derived.Test.YtogmbehomilalaaGreatDoorZOpSq
import Derived.Laws.EntriesVeiled
import Derived.Test.YtogmbehomilalaaGreatDoorZSeq

/- The rank of coordinates in the tiled order. -/
section
namespace Go.Proofs.YtogmbehomilalaaGreatDoor
open Go Go.RowKit Go.Deep Go.Shelf Go.Sort
attribute [local go_sem] Oper.semAt_some

set_option maxRecDepth 100000 in
set_option maxHeartbeats 8000000 in
theorem s_RankT (w : World) (S O L H X : Option Addr) (s sc o oc n c d xc : Nat) (tile form codec : Int) (lo hi : Nat → Int) (e : Nat → Nat) (t0 : Nat) (hl : IntsAt w L n lo) (hh : IntsAt w H n hi) (hx : IntsAt w X n (fun k => crdZ lo e n t0 k)) (h1 : 1 ≤ n) (h4 : n ≤ 4) (ho : ordB 3 tile = true)
    (hb : ∀ k, k < n → -9223372036854775808 ≤ lo k ∧ lo k ≤ hi k ∧ hi k ≤ 1073741824 ∧ hi k - lo k < 4096) (he : ∀ k, k < n → 1 ≤ e k ∧ hi k = lo k + e k - 1) (hv : volO lo hi n ≤ 4096) (hv2 : volC e n 0 ≤ 4096) :
    Calls Tryz.prog 16 #[LayV S s sc O o oc 3 tile form codec, BoxW L H n c n d, .slice X n xc] w fun e' w' => e' = .returned (.tuple #[.int .i64 (cntTo (fun t => decide (tlK n lo hi tile e t < tlK n lo hi tile e t0)) (volC e n 0) : Nat), .int .i64 0]) ∧ Below w.heap.size w w' := by
  have hpos : ∀ k, k < n → 1 ≤ e k := fun k hk => (he k hk).1
  have hN1 : 1 ≤ volC e n 0 := volC_pos' hpos (Nat.zero_le _)
  have HOE : Hid (∀ W, Below w.heap.size w W → Calls Tryz.prog 46 #[LayV S s sc O o oc 3 tile form codec, BoxW L H n c n d, .int .i64 n] W fun e w' => e = .returned (.int .i64 0) ∧ Below W.heap.size W w') := fun W hW => s_orderError W S O L H s sc o oc n c d 3 tile form codec lo hi (hl.below hW) (hh.below hW) h1 h4 ho hb hv
  have HHa : Hid (∀ W, Below w.heap.size w W → Calls Tryz.prog 57 #[BoxW L H n c n d, .slice X n xc] W fun e w' => e = .returned (.bool true) ∧ Below W.heap.size W w') := fun W hW => (s_Has W L H X n c n d n xc lo hi _ (hl.below hW) (hh.below hW) (hx.below hW) (by omega) (by omega)).mono fun e' w' h => by
    rw [has_crd h1 h4 fun k hk => ⟨hpos k hk, (he k hk).2⟩] at h
    exact h
  have HCO : Hid (∀ W, Calls Tryz.prog 48 #[BoxW L H n c n d] W fun e w' => ∃ Bb, e = .returned (.func (.func 91) #[] #[.pointer (some ⟨Bb, 0, none⟩)]) ∧ Below W.heap.size W w' ∧ W.heap.size ≤ Bb ∧ Bb < w'.heap.size ∧ w'.heap[Bb]? = some (.cells #[.slice L n c, .slice H n d] 45 (0, 0))) := fun W => (c_coordinates W (.slice L n c) (.slice H n d)).mono fun e' w' h => by
    obtain ⟨rfl, rfl⟩ := h
    exact ⟨_, rfl, (Below.refl _ _).alloc (Nat.le_refl _) _, Nat.le_refl _, by simp, heap_alloc_new W _⟩
  have HKE : Hid (∀ W, Below w.heap.size w W → Calls Tryz.prog 49 #[LayV S s sc O o oc 3 tile form codec, BoxW L H n c n d] W fun e w' => e = .returned (.func (.func 93) #[FrmV L n c H n d tile (wdTo lo hi n : Nat)] #[]) ∧ Below W.heap.size W w') := fun W hW => s_keysT W S O L H s sc o oc n c d tile form codec lo hi (hl.below hW) (hh.below hW) (by omega) hb
  have HKy : Hid (∀ W (P : Option Addr) (cc t : Nat), Below w.heap.size w W → IntsAt W P n (fun k => crdZ lo e n t k) → Calls Tryz.prog 93 #[FrmV L n c H n d tile (wdTo lo hi n : Nat), .slice P n cc] W fun e' w' => e' = .returned (.int .i64 (tlK n lo hi tile e t)) ∧ Below W.heap.size W w') := fun W P cc t hW hP => s_tiled W L H P n c d cc tile _ lo hi _ (hl.below hW) (hh.below hW) hP h4 hb (crd_inB he) (ord_tile ho)
  have HEe : Hid (∀ k, k < n → 1 ≤ e k ∧ hi k = lo k + e k - 1 ∧ -9223372036854775808 ≤ lo k ∧ hi k ≤ 4611686018427387904) := fun k hk => ⟨(he k hk).1, (he k hk).2, (hb k hk).1, by have := (hb k hk).2.2.1; omega⟩
  have HIt : Hid (∀ m, 1 ≤ m → ∀ Bb bl ol bh oh, L = some ⟨bl, ol, none⟩ → H = some ⟨bh, oh, none⟩ → IterOwn Fence.wide m Tryz.prog 91 #[.pointer (some ⟨Bb, 0, none⟩)] (ReadsBox Bb bl ol c bh oh d n lo hi) (CrdArg n lo e) (volC e n 0)) := fun m hm Bb bl ol bh oh _ _ => crd_iter m hm Bb bl ol c bh oh d n lo hi e h1 (by omega) (fun k hk => ⟨(he k hk).1, (he k hk).2, (hb k hk).1, by have := (hb k hk).2.2.1; omega⟩)
  have HLH := Lib.hid (And.intro hl (And.intro hh hx))
  have KB := Lib.hid (lay_box w S O s sc o oc 3 tile form codec)
  have HB1 : Hid (Below w.heap.size w (w.alloc (.cells #[.slice S s sc, .slice O o oc, .int .i64 3, .int .i64 tile, .int .i64 form, .int .i64 codec] 43))) := (Below.refl _ _).alloc (Nat.le_refl _) _
  have hz1 : (w.alloc (.cells #[.slice S s sc, .slice O o oc, .int .i64 3, .int .i64 tile, .int .i64 form, .int .i64 codec] 43)).heap.size = w.heap.size + 1 := by simp
  have hNm : volC e n 0 ≤ 1000000 := by omega
  clear hl hh hx ho hb hv hv2 hpos
  obtain ⟨N, hN⟩ : ∃ N, volC e n 0 = N := ⟨_, rfl⟩
  rw [hN] at hNm hN1 ⊢
  refine (callsIn_wide (n := 3)).1 ?_
  refine callsIn_of_wp_marks Tryz.func16 rfl trivial ?_ rfl
  simp only [Tryz.ntmps16, List.size_toArray, List.length_cons, List.length_nil, Nat.reduceAdd, Nat.reduceSub, Array.replicate_succ, Array.replicate_zero, List.push_toArray, List.append_toArray, List.nil_append, List.cons_append]
  gi_wp2_with fail
  generalize w.alloc (.cells #[.slice S s sc, .slice O o oc, .int .i64 3, .int .i64 tile, .int .i64 form, .int .i64 codec] 43) = Wa at *
  have K2 := Lib.hid (box_two Wa (.slice L n c) (.slice H n d) 45)
  have HB2 : Hid (Below Wa.heap.size Wa (Wa.alloc (.cells #[.slice L n c, .slice H n d] 45))) := (Below.refl _ _).alloc (Nat.le_refl _) _
  rw [hz1] at K2 HB2 KB
  have HB3 : Hid (Below w.heap.size w (Wa.alloc (.cells #[.slice L n c, .slice H n d] 45))) := Below.trans HB1.out (HB2.out.mono (by omega))
  generalize hWb : Wa.alloc (.cells #[.slice L n c, .slice H n d] 45) = Wb at *
  have hz2 : Wb.heap.size = w.heap.size + 2 := by rw [← hWb]; simp; omega
  clear hWb
  have KK : Hid (∀ W, Below Wb.heap.size Wb W → (W.cell? ⟨w.heap.size, 0, none⟩ = some (.slice S s sc) ∧ W.cell? ⟨w.heap.size, 1, none⟩ = some (.slice O o oc) ∧ W.cell? ⟨w.heap.size, 2, none⟩ = some (.int .i64 3) ∧ W.cell? ⟨w.heap.size, 3, none⟩ = some (.int .i64 tile) ∧ W.cell? ⟨w.heap.size, 4, none⟩ = some (.int .i64 form) ∧ W.cell? ⟨w.heap.size, 5, none⟩ = some (.int .i64 codec)) ∧ W.cell? ⟨w.heap.size + 1, 0, none⟩ = some (.slice L n c) ∧ W.cell? ⟨w.heap.size + 1, 1, none⟩ = some (.slice H n d)) := fun W hW => ⟨KB.out W (Below.trans HB2.out (hW.mono (by omega))), K2.out W hW⟩
  clear KB K2 HB1 HB2
  refine ⟨trivial, ?_⟩
  refine (callsIn_wide.2 (HOE.out _ HB3.out)).mono ?_
  rintro e1 w1 ⟨rfl, hb1⟩
  obtain ⟨⟨l0, l1, l2, l3, l4, l5⟩, m0, m1⟩ := KK.out w1 hb1
  gi_wp2_with fail
  refine ⟨trivial, ?_⟩
  refine (callsIn_wide.2 (HHa.out _ (st HB3.out hb1))).mono ?_
  rintro e2 w2 ⟨rfl, hb2⟩
  have hb12 := st hb1 hb2
  clear l0 l1 l2 l3 l4 l5 m0 m1
  obtain ⟨⟨l0, l1, l2, l3, l4, l5⟩, m0, m1⟩ := KK.out w2 hb12
  gi_wp2_with fail
  refine ⟨trivial, ?_⟩
  refine (callsIn_wide.2 (HKE.out _ (st HB3.out hb12))).mono ?_
  rintro e3 w3 ⟨rfl, hb3⟩
  have hb13 := st hb12 hb3
  clear l0 l1 l2 l3 l4 l5 m0 m1 hb1 hb2 hb3 hb12 HOE HHa HKE
  gi_wp2_with fail
  obtain ⟨hl, hh, hx⟩ := HLH.out
  obtain ⟨OWN, hOWN⟩ : ∃ OWN, tlK n lo hi tile e t0 = OWN := ⟨_, rfl⟩
  have HOWN := Lib.hid hOWN
  have bk := Boxed.new w3 95 (.func (.func 93) #[FrmV L n c H n d tile (wdTo lo hi n : Nat)] #[])
  have hb4 : Below Wb.heap.size Wb (w3.alloc (.cells #[.func (.func 93) #[FrmV L n c H n d tile (wdTo lo hi n : Nat)] #[]] 95)) := st hb13 ((Below.refl _ _).alloc (Nat.le_refl _) _)
  have hg3 : w.heap.size + 2 ≤ w3.heap.size := by rw [← hz2]; exact hb13.size
  generalize hBk : w3.heap.size = Bk at *
  generalize w3.alloc (.cells #[.func (.func 93) #[FrmV L n c H n d tile (wdTo lo hi n : Nat)] #[]] 95) = w4 at *
  clear hb13 hBk
  refine ⟨trivial, ?_⟩
  refine (callsIn_wide.2 (HKy.out w4 X xc t0 (st HB3.out hb4) (hx.below (st HB3.out hb4)))).mono ?_
  rw [hOWN]
  rintro e4 w5 ⟨rfl, hb5⟩
  have hb45 := st hb4 hb5
  have bk5 : Boxed w5 Bk 95 (.func (.func 93) #[FrmV L n c H n d tile (wdTo lo hi n : Nat)] #[]) := (hb5.block _ (Array.getElem?_eq_some_iff.1 bk).1).trans bk
  clear bk hb4 hb5 hOWN hx
  have hz5 : w.heap.size + 2 ≤ w5.heap.size := by rw [← hz2]; exact hb45.size
  have HB6 : Hid (Below Wb.heap.size Wb ((w5.alloc (.cells #[.int .i64 OWN] 3)).alloc (.cells #[.int .i64 0] 3))) := (hb45.alloc hb45.size _).alloc (by have := hb45.size; simp; omega) _
  obtain ⟨-, m0, m1⟩ := KK.out _ HB6.out
  have bo6 := (Boxed.new w5 3 (.int .i64 OWN)).alloc (.cells #[.int .i64 0] 3)
  have br6 := Boxed.new (w5.alloc (.cells #[.int .i64 OWN] 3)) 3 (.int .i64 0)
  have bk6 := (bk5.alloc (.cells #[.int .i64 OWN] 3)).alloc (.cells #[.int .i64 0] 3)
  rw [World.size_alloc] at br6
  clear bk5
  gi_wp2_with fail
  clear m0 m1
  have hz6 : ((w5.alloc (.cells #[.int .i64 OWN] 3)).alloc (.cells #[.int .i64 0] 3)).heap.size = w5.heap.size + 2 := by simp
  generalize (w5.alloc (.cells #[.int .i64 OWN] 3)).alloc (.cells #[.int .i64 0] 3) = w6 at *
  generalize hB5 : w5.heap.size = B5 at *
  clear hB5 hb45
  refine ⟨trivial, ?_⟩
  refine (callsIn_wide.2 (HCO.out _)).mono ?_
  rintro e7 w7 ⟨Bb, rfl, hb7, hBb1, hBb2, hBb⟩
  have HB7 : Hid (Below Wb.heap.size Wb w7) := st HB6.out hb7
  have bo7 : Boxed w7 B5 3 (.int .i64 OWN) := (hb7.block _ (Array.getElem?_eq_some_iff.1 bo6).1).trans bo6
  have br7 : Boxed w7 (B5 + 1) 3 (.int .i64 0) := (hb7.block _ (Array.getElem?_eq_some_iff.1 br6).1).trans br6
  have bk7 : Boxed w7 Bk 95 (.func (.func 93) #[FrmV L n c H n d tile (wdTo lo hi n : Nat)] #[]) := (hb7.block _ (Array.getElem?_eq_some_iff.1 bk6).1).trans bk6
  have hB5l : B5 + 1 < w7.heap.size := (Array.getElem?_eq_some_iff.1 br7).1
  clear bo6 br6 bk6 hb7 HB6 HCO
  gi_wp2_with fail
  obtain ⟨bl, ol, rfl, hbl, hcl⟩ := hl (by omega)
  obtain ⟨bh, oh, rfl, hbh, hch⟩ := hh (by omega)
  have HLC : Hid (∀ W, Below w.heap.size w W → ∀ k, k < n → W.cell? ⟨bl, ol + k, none⟩ = some (.int .i64 (lo k)) ∧ W.cell? ⟨bh, oh + k, none⟩ = some (.int .i64 (hi k))) := fun W hW k hk => ⟨(hW.cell (p := ⟨bl, ol + k, none⟩) hbl).trans (hcl k hk), (hW.cell (p := ⟨bh, oh + k, none⟩) hbh).trans (hch k hk)⟩
  have HRd : Hid (∀ W, W.heap[Bb]? = some (.cells #[.slice (some ⟨bl, ol, none⟩) n c, .slice (some ⟨bh, oh, none⟩) n d] 45 (0, 0)) → Below w.heap.size w W → ReadsBox Bb bl ol c bh oh d n lo hi W) := fun W h1 h2 => ⟨by rw [cell_of_row _ _ _ _ _ _ h1]; rfl, by rw [cell_of_row _ _ _ _ _ _ h1]; rfl, HLC.out W h2⟩
  have hbw7 := st HB3.out HB7.out
  have HB7w : Hid (w.heap.size + 2 ≤ w7.heap.size) := by show _ ≤ _; rw [← hz2]; exact HB7.out.size
  have eg : ∀ args w, (callFunc 91 args).run Tryz.prog w = .ok (.enter 91 args) w := enters_of Tryz.func91 (by kernel_rfl) rfl
  have hBk7 : Bk < w7.heap.size := (Array.getElem?_eq_some_iff.1 bk7).1
  have HKc9 : Hid (∀ W (P : Option Addr) (cc t : Nat), Below w.heap.size w W → IntsAt W P n (fun k => crdZ lo e n t k) → Calls Tryz.prog 93 #[FrmV (some ⟨bl, ol, none⟩) n c (some ⟨bh, oh, none⟩) n d tile (wdTo lo hi n : Nat), .slice P n cc] W fun e' w' => e' = .returned (.int .i64 (tlK n lo hi tile e t)) ∧ Below W.heap.size W w') := HKy.out
  clear hl hh hcl hch HLH HKy KK HB3 HB7 hz2 hz6 HIt
  have HIt : Hid (∀ m, 1 ≤ m → IterOwn Fence.wide m Tryz.prog 91 #[.pointer (some ⟨Bb, 0, none⟩)] (ReadsBox Bb bl ol c bh oh d n lo hi) (CrdArg n lo e) N) := by
    intro m hm
    rw [← hN]
    exact crd_iter m hm Bb bl ol c bh oh d n lo hi e h1 (by omega) HEe.out
  rename_i KO hKO
  refine wpIn_range_own (gf := 91) (lb := #[.pointer (some ⟨Bb, 0, none⟩)]) rfl (by omega) rfl trivial eg (HIt.out _ (by omega))
    (fun A k args W h => by obtain ⟨v, rfl, _⟩ := h; rfl)
    (fun W => Boxed W (B5 + 1) 3 (.int .i64 0) ∧ Boxed W B5 3 (.int .i64 OWN) ∧ Boxed W Bk 95 (.func (.func 93) #[FrmV (some ⟨bl, ol, none⟩) n c (some ⟨bh, oh, none⟩) n d tile (wdTo lo hi n : Nat)] #[]) ∧ W.heap[Bb]? = some (.cells #[.slice (some ⟨bl, ol, none⟩) n c, .slice (some ⟨bh, oh, none⟩) n d] 45 (0, 0)) ∧ Below w.heap.size w W)
    (fun A k W => RkAt w Bk B5 (B5 + 1) (.func (.func 93) #[FrmV (some ⟨bl, ol, none⟩) n c (some ⟨bh, oh, none⟩) n d tile (wdTo lo hi n : Nat)] #[]) OWN Bb (.slice (some ⟨bl, ol, none⟩) n c) (.slice (some ⟨bh, oh, none⟩) n d) (fun t => decide (tlK n lo hi tile e t < OWN)) A k W)
    (fun _ _ _ => False)
    ?i0 (fun A k hA => rk_steps (by have := HB7w.out; omega) (by have := HB7w.out; omega)) (fun A c hA W W' row h => h.elim)
    ?hy (fun W h => HRd.out W h.2.2.2.1 h.2.2.2.2) (fun A k W h => HRd.out W h.box h.below) ⟨br7, bo7, bk7, hBb, hbw7⟩ ?start
    (fun args => { tmps := #[LayV S s sc O o oc 3 tile form codec, BoxW (some ⟨bl, ol, none⟩) (some ⟨bh, oh, none⟩) n c n d, .slice X n xc, .pointer (some ⟨w.heap.size, 0, none⟩), .pointer (some ⟨w.heap.size + 1, 0, none⟩), undef, .int .i64 0, .int .i64 0, .int .i64 0, .pointer (some ⟨Bk, 0, none⟩), .pointer (some ⟨B5, 0, none⟩), .pointer (some ⟨B5 + 1, 0, none⟩), args.getD 0 undef, .agg #[.slice S s sc, .slice O o oc, .int .i64 3, .int .i64 tile, .int .i64 form, .int .i64 codec], .agg #[.slice (some ⟨bl, ol, none⟩) n c, .slice (some ⟨bh, oh, none⟩) n d], .slice X n xc, .int .i64 n, .int .i64 0, .int .i64 0, .bool false, undef, .agg #[.slice (some ⟨bl, ol, none⟩) n c, .slice (some ⟨bh, oh, none⟩) n d], .slice X n xc, .bool true, .bool false, .agg #[.slice S s sc, .slice O o oc, .int .i64 3, .int .i64 tile, .int .i64 form, .int .i64 codec], .agg #[.slice (some ⟨bl, ol, none⟩) n c, .slice (some ⟨bh, oh, none⟩) n d], .func (.func 93) #[FrmV (some ⟨bl, ol, none⟩) n c (some ⟨bh, oh, none⟩) n d tile (wdTo lo hi n : Nat)] #[], .func (.func 93) #[FrmV (some ⟨bl, ol, none⟩) n c (some ⟨bh, oh, none⟩) n d tile (wdTo lo hi n : Nat)] #[], .slice X n xc, .int .i64 OWN, .agg #[.slice (some ⟨bl, ol, none⟩) n c, .slice (some ⟨bh, oh, none⟩) n d], .func (.func 91) #[] #[.pointer (some ⟨Bb, 0, none⟩)], args.getD 0 undef, undef, undef, undef, undef, undef, undef, undef, undef], defers := [] }) ?assign ?body ?done ?stop
  case i0 =>
    rintro _ W W' row ⟨i1, i2, i3, i4, i5⟩ hg hr
    have hne : ∀ {B : Nat} {cs : Array Value} {t : TypeId}, W.heap[B]? = some (.cells cs t (0, 0)) → some B ≠ row := fun {B cs t} h e => by
      obtain ⟨_, o, ho, hc⟩ := hr B e.symm
      rw [h] at ho; cases ho; cases hc
    exact ⟨i1.kept hg (hne i1), i2.kept hg (hne i2), i3.kept hg (hne i3), (hg.block Bb (Array.getElem?_eq_some_iff.1 i4).1 (hne i4)).trans i4, i5.grown hg i5.size (fun r e => by have := (hr r e).1; have := HB7w.out; omega)⟩
  case hy =>
    rintro ⟨A, k, args⟩ W W' row ⟨v, hv, h⟩ hg hr
    exact ⟨v, hv, crd_elem n lo e _ _ _ _ _ _ h hg fun r e => by obtain ⟨_, o, ho, hc⟩ := hr r e; exact .inr ⟨o, ho, fun cs h => by subst h; cases hc⟩⟩
  case start =>
    rintro A W ⟨i1, i2, i3, i4, i5⟩ hA hAl
    exact ⟨i1, i2, i3, i4, i5, by omega, by omega, by omega, by omega⟩
  case assign =>
    rintro l A k args W K ⟨v, rfl, h⟩ hK
    gi_wp2
    exact hK
  case body =>
    rintro l A k args W hk hA hAl HJ ⟨v, rfl, hv⟩
    obtain ⟨vp, vn, vc, rfl⟩ : ∃ p n c, v = .slice p n c := by obtain ⟨b, c, g, h, _⟩ := hv; exact ⟨_, _, _, h⟩
    obtain ⟨j1, j2, j3, j4, j5, j6⟩ := HJ
    have hbw := j5.size
    gi_wp2
    refine RW.r_less (g := 93) (fr := FrmV (some ⟨bl, ol, none⟩) n c (some ⟨bh, oh, none⟩) n d tile (wdTo lo hi n : Nat)) (vp := vp) (vn := vn) (vc := vc) (ky := tlK n lo hi tile e k) (own := OWN) (Bk := Bk) (Bo := B5) rfl rfl rfl (dag_of (by kernel_rfl)) (by kernel_rfl) rfl rfl rfl rfl rfl rfl rfl rfl rfl (by kernel_rfl) (by kernel_rfl) rfl rfl rfl rfl rfl rfl (by kernel_rfl) (by kernel_rfl) rfl rfl rfl
      (fun W' hW => (j3.kept (grown_below hW) (by simp)).cell) (fun W' hW => (j2.kept (grown_below hW) (by simp)).cell) (enters_of Tryz.func93 (by kernel_rfl) rfl)
      (fun W' hW => ?_) ?_
    · obtain ⟨P, cc, hx, hP⟩ := crd_ints (crd_elem n lo e _ _ _ _ _ _ hv (grown_below hW) (fun r e => by cases e))
      injection hx with hx1 hx2 hx3
      subst hx1 hx2 hx3
      exact HKc9.out W' _ _ k (j5.trans (hW.mono (by omega))) hP
    · intro a' W' hW hsz hdf h38 h11
      have B2 := j2.kept (grown_below hW) (by simp)
      have B1 := j1.kept (grown_below hW) (by simp)
      have B3 := j3.kept (grown_below hW) (by simp)
      have B4 := (hW.block Bb (Array.getElem?_eq_some_iff.1 j4).1).trans j4
      have B5' : Below w.heap.size w W' := j5.trans (hW.mono (by omega))
      obtain ⟨f, hf, rfl⟩ := actlitf 42 a' hsz (hdf.trans rfl)
      rw [show List.range 42 = [0, 1, 2, 3, 4, 5, 6, 7, 8, 9, 10, 11, 12, 13, 14, 15, 16, 17, 18, 19, 20, 21, 22, 23, 24, 25, 26, 27, 28, 29, 30, 31, 32, 33, 34, 35, 36, 37, 38, 39, 40, 41] from rfl]
      simp only [List.map_cons, List.map_nil]
      have q38 : f 38 = .bool (decide (tlK n lo hi tile e k < OWN)) := (hf 38).symm.trans h38
      have q11 : f 11 = .pointer (some ⟨B5 + 1, 0, none⟩) := (hf 11).symm.trans h11
      rw [q38, q11]
      clear q38 q11 h38 h11 hf hsz hdf
      have c1 := B1.cell
      have z1 := B1.frozen
      have hAW : A < W'.heap.size := by have := hW.size; omega
      by_cases hp : tlK n lo hi tile e k < OWN
      · have hpT : (fun t => decide (tlK n lo hi tile e t < OWN)) k = true := decide_eq_true hp
        rw [decide_eq_true hp]
        have hcle : cntTo (fun t => decide (tlK n lo hi tile e t < OWN)) k ≤ 1000000 := Nat.le_trans (cntTo_le _ _) (by omega)
        have HC := cntTo_yes (p := fun t => decide (tlK n lo hi tile e t < OWN)) (k := k) hpT
        generalize hCC : cntTo (fun t => decide (tlK n lo hi tile e t < OWN)) k = CC at *
        gi_wp2
        have gs := grownBy_setCell' W' (B5 + 1) (.int .i64 ((CC : Int) + 1))
        have hWl : B5 + 1 < W'.heap.size := (Array.getElem?_eq_some_iff.1 B1).1
        have n3 : Bk ≠ B5 + 1 := apart_t B3 B1 (by decide)
        have n4 : Bb ≠ B5 + 1 := apart_t B4 B1 (by decide)
        have nA : A ≠ B5 + 1 := fun e => by have := j6.2.2.1; omega
        refine ⟨(keeps_below hW).trans (KeepsOthers.setCell _ _ _), (gs.block A hAW (by simpa using nA)).trans (hW.block A hAl), ?_, B2.kept gs (by simp), B3.kept gs (by simpa using n3), (gs.block Bb (Array.getElem?_eq_some_iff.1 B4).1 (by simpa using n4)).trans B4, B5'.setCell (by show w.heap.size ≤ B5 + 1; have := HB7w.out; omega) _, j6⟩
        rw [HC]
        exact B1.set _
      · have hpF : (fun t => decide (tlK n lo hi tile e t < OWN)) k = false := decide_eq_false hp
        rw [decide_eq_false hp]
        have HC := cntTo_no (p := fun t => decide (tlK n lo hi tile e t < OWN)) (k := k) hpF
        gi_wp2
        exact ⟨keeps_below hW, hW.block A hAl, by rw [HC]; exact B1, B2, B3, B4, B5', j6⟩
  case done =>
    rintro D A W hD HJ hK
    obtain ⟨j1, j2, j3, j4, j5, j6⟩ := HJ
    have c1 := j1.cell
    refine hKO _ _ ?_
    gi_wp2
    refine ⟨by simp, .inl ⟨_, _, rfl, run_takeDeferred hK, ?_⟩⟩
    refine ⟨.tuple #[.int .i64 (cntTo (fun t => decide (tlK n lo hi tile e t < OWN)) N : Nat), .int .i64 0], by simp [results, Tryz.results16, go_sem], by rw [← HOWN.out], j5.trans (belowK_b (w := w) (Nat.le_refl _) W D _ _ (by have := HB7w.out; omega) hK rfl rfl)⟩
  case stop => exact fun D A c W hD h => h.elim
end Go.Proofs.YtogmbehomilalaaGreatDoor
end

/- The rank of coordinates in the Hilbert order. -/
section
namespace Go.Proofs.YtogmbehomilalaaGreatDoor
open Go Go.RowKit Go.Deep Go.Shelf Go.Sort
attribute [local go_sem] Oper.semAt_some

set_option maxRecDepth 100000 in
set_option maxHeartbeats 8000000 in
theorem s_RankH (w : World) (S O L H X : Option Addr) (s sc o oc n c d xc : Nat) (tile form codec : Int) (lo hi : Nat → Int) (e : Nat → Nat) (t0 : Nat) (hl : IntsAt w L n lo) (hh : IntsAt w H n hi) (hx : IntsAt w X n (fun k => crdZ lo e n t0 k)) (h1 : 1 ≤ n) (h4 : n ≤ 4) (ho : ordB 2 tile = true)
    (hb : ∀ k, k < n → -9223372036854775808 ≤ lo k ∧ lo k ≤ hi k ∧ hi k ≤ 1073741824 ∧ hi k - lo k < 4096) (he : ∀ k, k < n → 1 ≤ e k ∧ hi k = lo k + e k - 1) (hv : volO lo hi n ≤ 4096) (hv2 : volC e n 0 ≤ 4096) (hw : wdTo lo hi n ≤ 15) :
    Calls Tryz.prog 16 #[LayV S s sc O o oc 2 tile form codec, BoxW L H n c n d, .slice X n xc] w fun e' w' => e' = .returned (.tuple #[.int .i64 (cntTo (fun t => decide (hilK n (wdTo lo hi n) lo e t < hilK n (wdTo lo hi n) lo e t0)) (volC e n 0) : Nat), .int .i64 0]) ∧ Below w.heap.size w w' := by
  have hpos : ∀ k, k < n → 1 ≤ e k := fun k hk => (he k hk).1
  have hN1 : 1 ≤ volC e n 0 := volC_pos' hpos (Nat.zero_le _)
  have HOE : Hid (∀ W, Below w.heap.size w W → Calls Tryz.prog 46 #[LayV S s sc O o oc 2 tile form codec, BoxW L H n c n d, .int .i64 n] W fun e w' => e = .returned (.int .i64 0) ∧ Below W.heap.size W w') := fun W hW => s_orderError W S O L H s sc o oc n c d 2 tile form codec lo hi (hl.below hW) (hh.below hW) h1 h4 ho hb hv
  have HHa : Hid (∀ W, Below w.heap.size w W → Calls Tryz.prog 57 #[BoxW L H n c n d, .slice X n xc] W fun e w' => e = .returned (.bool true) ∧ Below W.heap.size W w') := fun W hW => (s_Has W L H X n c n d n xc lo hi _ (hl.below hW) (hh.below hW) (hx.below hW) (by omega) (by omega)).mono fun e' w' h => by
    rw [has_crd h1 h4 fun k hk => ⟨hpos k hk, (he k hk).2⟩] at h
    exact h
  have HCO : Hid (∀ W, Calls Tryz.prog 48 #[BoxW L H n c n d] W fun e w' => ∃ Bb, e = .returned (.func (.func 91) #[] #[.pointer (some ⟨Bb, 0, none⟩)]) ∧ Below W.heap.size W w' ∧ W.heap.size ≤ Bb ∧ Bb < w'.heap.size ∧ w'.heap[Bb]? = some (.cells #[.slice L n c, .slice H n d] 45 (0, 0))) := fun W => (c_coordinates W (.slice L n c) (.slice H n d)).mono fun e' w' h => by
    obtain ⟨rfl, rfl⟩ := h
    exact ⟨_, rfl, (Below.refl _ _).alloc (Nat.le_refl _) _, Nat.le_refl _, by simp, heap_alloc_new W _⟩
  have HKE : Hid (∀ W, Below w.heap.size w W → Calls Tryz.prog 49 #[LayV S s sc O o oc 2 tile form codec, BoxW L H n c n d] W fun e w' => e = .returned (.func (.func 94) #[FrmV L n c H n d tile (wdTo lo hi n : Nat)] #[]) ∧ Below W.heap.size W w') := fun W hW => s_keys W S O L H s sc o oc n c d tile form codec lo hi (hl.below hW) (hh.below hW) (by omega) hb
  have HKy : Hid (∀ W (P : Option Addr) (cc t : Nat), Below w.heap.size w W → IntsAt W P n (fun k => crdZ lo e n t k) → Calls Tryz.prog 94 #[FrmV L n c H n d tile (wdTo lo hi n : Nat), .slice P n cc] W fun e' w' => e' = .returned (.int .i64 (hilK n (wdTo lo hi n) lo e t)) ∧ Below W.heap.size W w') := fun W P cc t hW hP => s_hilbert W L H P n c n d cc tile _ lo _ (hl.below hW) hP h1 h4 hw (fun k hk => by have h9 : lo k ≤ crdZ lo e n t k ∧ crdZ lo e n t k ≤ hi k := crd_inB (t := t) he k hk; have := hb k hk; show -9223372036854775808 ≤ lo k ∧ lo k ≤ crdZ lo e n t k ∧ crdZ lo e n t k - lo k ≤ 1073741824; omega)
  have HEe : Hid (∀ k, k < n → 1 ≤ e k ∧ hi k = lo k + e k - 1 ∧ -9223372036854775808 ≤ lo k ∧ hi k ≤ 4611686018427387904) := fun k hk => ⟨(he k hk).1, (he k hk).2, (hb k hk).1, by have := (hb k hk).2.2.1; omega⟩
  have HIt : Hid (∀ m, 1 ≤ m → ∀ Bb bl ol bh oh, L = some ⟨bl, ol, none⟩ → H = some ⟨bh, oh, none⟩ → IterOwn Fence.wide m Tryz.prog 91 #[.pointer (some ⟨Bb, 0, none⟩)] (ReadsBox Bb bl ol c bh oh d n lo hi) (CrdArg n lo e) (volC e n 0)) := fun m hm Bb bl ol bh oh _ _ => crd_iter m hm Bb bl ol c bh oh d n lo hi e h1 (by omega) (fun k hk => ⟨(he k hk).1, (he k hk).2, (hb k hk).1, by have := (hb k hk).2.2.1; omega⟩)
  have HLH := Lib.hid (And.intro hl (And.intro hh hx))
  have KB := Lib.hid (lay_box w S O s sc o oc 2 tile form codec)
  have HB1 : Hid (Below w.heap.size w (w.alloc (.cells #[.slice S s sc, .slice O o oc, .int .i64 2, .int .i64 tile, .int .i64 form, .int .i64 codec] 43))) := (Below.refl _ _).alloc (Nat.le_refl _) _
  have hz1 : (w.alloc (.cells #[.slice S s sc, .slice O o oc, .int .i64 2, .int .i64 tile, .int .i64 form, .int .i64 codec] 43)).heap.size = w.heap.size + 1 := by simp
  have hNm : volC e n 0 ≤ 1000000 := by omega
  clear hl hh hx ho hb hv hv2 hpos
  obtain ⟨N, hN⟩ : ∃ N, volC e n 0 = N := ⟨_, rfl⟩
  rw [hN] at hNm hN1 ⊢
  refine (callsIn_wide (n := 3)).1 ?_
  refine callsIn_of_wp_marks Tryz.func16 rfl trivial ?_ rfl
  simp only [Tryz.ntmps16, List.size_toArray, List.length_cons, List.length_nil, Nat.reduceAdd, Nat.reduceSub, Array.replicate_succ, Array.replicate_zero, List.push_toArray, List.append_toArray, List.nil_append, List.cons_append]
  gi_wp2_with fail
  generalize w.alloc (.cells #[.slice S s sc, .slice O o oc, .int .i64 2, .int .i64 tile, .int .i64 form, .int .i64 codec] 43) = Wa at *
  have K2 := Lib.hid (box_two Wa (.slice L n c) (.slice H n d) 45)
  have HB2 : Hid (Below Wa.heap.size Wa (Wa.alloc (.cells #[.slice L n c, .slice H n d] 45))) := (Below.refl _ _).alloc (Nat.le_refl _) _
  rw [hz1] at K2 HB2 KB
  have HB3 : Hid (Below w.heap.size w (Wa.alloc (.cells #[.slice L n c, .slice H n d] 45))) := Below.trans HB1.out (HB2.out.mono (by omega))
  generalize hWb : Wa.alloc (.cells #[.slice L n c, .slice H n d] 45) = Wb at *
  have hz2 : Wb.heap.size = w.heap.size + 2 := by rw [← hWb]; simp; omega
  clear hWb
  have KK : Hid (∀ W, Below Wb.heap.size Wb W → (W.cell? ⟨w.heap.size, 0, none⟩ = some (.slice S s sc) ∧ W.cell? ⟨w.heap.size, 1, none⟩ = some (.slice O o oc) ∧ W.cell? ⟨w.heap.size, 2, none⟩ = some (.int .i64 2) ∧ W.cell? ⟨w.heap.size, 3, none⟩ = some (.int .i64 tile) ∧ W.cell? ⟨w.heap.size, 4, none⟩ = some (.int .i64 form) ∧ W.cell? ⟨w.heap.size, 5, none⟩ = some (.int .i64 codec)) ∧ W.cell? ⟨w.heap.size + 1, 0, none⟩ = some (.slice L n c) ∧ W.cell? ⟨w.heap.size + 1, 1, none⟩ = some (.slice H n d)) := fun W hW => ⟨KB.out W (Below.trans HB2.out (hW.mono (by omega))), K2.out W hW⟩
  clear KB K2 HB1 HB2
  refine ⟨trivial, ?_⟩
  refine (callsIn_wide.2 (HOE.out _ HB3.out)).mono ?_
  rintro e1 w1 ⟨rfl, hb1⟩
  obtain ⟨⟨l0, l1, l2, l3, l4, l5⟩, m0, m1⟩ := KK.out w1 hb1
  gi_wp2_with fail
  refine ⟨trivial, ?_⟩
  refine (callsIn_wide.2 (HHa.out _ (st HB3.out hb1))).mono ?_
  rintro e2 w2 ⟨rfl, hb2⟩
  have hb12 := st hb1 hb2
  clear l0 l1 l2 l3 l4 l5 m0 m1
  obtain ⟨⟨l0, l1, l2, l3, l4, l5⟩, m0, m1⟩ := KK.out w2 hb12
  gi_wp2_with fail
  refine ⟨trivial, ?_⟩
  refine (callsIn_wide.2 (HKE.out _ (st HB3.out hb12))).mono ?_
  rintro e3 w3 ⟨rfl, hb3⟩
  have hb13 := st hb12 hb3
  clear l0 l1 l2 l3 l4 l5 m0 m1 hb1 hb2 hb3 hb12 HOE HHa HKE
  gi_wp2_with fail
  obtain ⟨hl, hh, hx⟩ := HLH.out
  obtain ⟨OWN, hOWN⟩ : ∃ OWN, hilK n (wdTo lo hi n) lo e t0 = OWN := ⟨_, rfl⟩
  have HOWN := Lib.hid hOWN
  have bk := Boxed.new w3 95 (.func (.func 94) #[FrmV L n c H n d tile (wdTo lo hi n : Nat)] #[])
  have hb4 : Below Wb.heap.size Wb (w3.alloc (.cells #[.func (.func 94) #[FrmV L n c H n d tile (wdTo lo hi n : Nat)] #[]] 95)) := st hb13 ((Below.refl _ _).alloc (Nat.le_refl _) _)
  have hg3 : w.heap.size + 2 ≤ w3.heap.size := by rw [← hz2]; exact hb13.size
  generalize hBk : w3.heap.size = Bk at *
  generalize w3.alloc (.cells #[.func (.func 94) #[FrmV L n c H n d tile (wdTo lo hi n : Nat)] #[]] 95) = w4 at *
  clear hb13 hBk
  refine ⟨trivial, ?_⟩
  refine (callsIn_wide.2 (HKy.out w4 X xc t0 (st HB3.out hb4) (hx.below (st HB3.out hb4)))).mono ?_
  rw [hOWN]
  rintro e4 w5 ⟨rfl, hb5⟩
  have hb45 := st hb4 hb5
  have bk5 : Boxed w5 Bk 95 (.func (.func 94) #[FrmV L n c H n d tile (wdTo lo hi n : Nat)] #[]) := (hb5.block _ (Array.getElem?_eq_some_iff.1 bk).1).trans bk
  clear bk hb4 hb5 hOWN hx
  have hz5 : w.heap.size + 2 ≤ w5.heap.size := by rw [← hz2]; exact hb45.size
  have HB6 : Hid (Below Wb.heap.size Wb ((w5.alloc (.cells #[.int .i64 OWN] 3)).alloc (.cells #[.int .i64 0] 3))) := (hb45.alloc hb45.size _).alloc (by have := hb45.size; simp; omega) _
  obtain ⟨-, m0, m1⟩ := KK.out _ HB6.out
  have bo6 := (Boxed.new w5 3 (.int .i64 OWN)).alloc (.cells #[.int .i64 0] 3)
  have br6 := Boxed.new (w5.alloc (.cells #[.int .i64 OWN] 3)) 3 (.int .i64 0)
  have bk6 := (bk5.alloc (.cells #[.int .i64 OWN] 3)).alloc (.cells #[.int .i64 0] 3)
  rw [World.size_alloc] at br6
  clear bk5
  gi_wp2_with fail
  clear m0 m1
  have hz6 : ((w5.alloc (.cells #[.int .i64 OWN] 3)).alloc (.cells #[.int .i64 0] 3)).heap.size = w5.heap.size + 2 := by simp
  generalize (w5.alloc (.cells #[.int .i64 OWN] 3)).alloc (.cells #[.int .i64 0] 3) = w6 at *
  generalize hB5 : w5.heap.size = B5 at *
  clear hB5 hb45
  refine ⟨trivial, ?_⟩
  refine (callsIn_wide.2 (HCO.out _)).mono ?_
  rintro e7 w7 ⟨Bb, rfl, hb7, hBb1, hBb2, hBb⟩
  have HB7 : Hid (Below Wb.heap.size Wb w7) := st HB6.out hb7
  have bo7 : Boxed w7 B5 3 (.int .i64 OWN) := (hb7.block _ (Array.getElem?_eq_some_iff.1 bo6).1).trans bo6
  have br7 : Boxed w7 (B5 + 1) 3 (.int .i64 0) := (hb7.block _ (Array.getElem?_eq_some_iff.1 br6).1).trans br6
  have bk7 : Boxed w7 Bk 95 (.func (.func 94) #[FrmV L n c H n d tile (wdTo lo hi n : Nat)] #[]) := (hb7.block _ (Array.getElem?_eq_some_iff.1 bk6).1).trans bk6
  have hB5l : B5 + 1 < w7.heap.size := (Array.getElem?_eq_some_iff.1 br7).1
  clear bo6 br6 bk6 hb7 HB6 HCO
  gi_wp2_with fail
  obtain ⟨bl, ol, rfl, hbl, hcl⟩ := hl (by omega)
  obtain ⟨bh, oh, rfl, hbh, hch⟩ := hh (by omega)
  have HLC : Hid (∀ W, Below w.heap.size w W → ∀ k, k < n → W.cell? ⟨bl, ol + k, none⟩ = some (.int .i64 (lo k)) ∧ W.cell? ⟨bh, oh + k, none⟩ = some (.int .i64 (hi k))) := fun W hW k hk => ⟨(hW.cell (p := ⟨bl, ol + k, none⟩) hbl).trans (hcl k hk), (hW.cell (p := ⟨bh, oh + k, none⟩) hbh).trans (hch k hk)⟩
  have HRd : Hid (∀ W, W.heap[Bb]? = some (.cells #[.slice (some ⟨bl, ol, none⟩) n c, .slice (some ⟨bh, oh, none⟩) n d] 45 (0, 0)) → Below w.heap.size w W → ReadsBox Bb bl ol c bh oh d n lo hi W) := fun W h1 h2 => ⟨by rw [cell_of_row _ _ _ _ _ _ h1]; rfl, by rw [cell_of_row _ _ _ _ _ _ h1]; rfl, HLC.out W h2⟩
  have hbw7 := st HB3.out HB7.out
  have HB7w : Hid (w.heap.size + 2 ≤ w7.heap.size) := by show _ ≤ _; rw [← hz2]; exact HB7.out.size
  have eg : ∀ args w, (callFunc 91 args).run Tryz.prog w = .ok (.enter 91 args) w := enters_of Tryz.func91 (by kernel_rfl) rfl
  have hBk7 : Bk < w7.heap.size := (Array.getElem?_eq_some_iff.1 bk7).1
  have HKc9 : Hid (∀ W (P : Option Addr) (cc t : Nat), Below w.heap.size w W → IntsAt W P n (fun k => crdZ lo e n t k) → Calls Tryz.prog 94 #[FrmV (some ⟨bl, ol, none⟩) n c (some ⟨bh, oh, none⟩) n d tile (wdTo lo hi n : Nat), .slice P n cc] W fun e' w' => e' = .returned (.int .i64 (hilK n (wdTo lo hi n) lo e t)) ∧ Below W.heap.size W w') := HKy.out
  clear hl hh hcl hch HLH HKy KK HB3 HB7 hz2 hz6 HIt
  have HIt : Hid (∀ m, 1 ≤ m → IterOwn Fence.wide m Tryz.prog 91 #[.pointer (some ⟨Bb, 0, none⟩)] (ReadsBox Bb bl ol c bh oh d n lo hi) (CrdArg n lo e) N) := by
    intro m hm
    rw [← hN]
    exact crd_iter m hm Bb bl ol c bh oh d n lo hi e h1 (by omega) HEe.out
  rename_i KO hKO
  refine wpIn_range_own (gf := 91) (lb := #[.pointer (some ⟨Bb, 0, none⟩)]) rfl (by omega) rfl trivial eg (HIt.out _ (by omega))
    (fun A k args W h => by obtain ⟨v, rfl, _⟩ := h; rfl)
    (fun W => Boxed W (B5 + 1) 3 (.int .i64 0) ∧ Boxed W B5 3 (.int .i64 OWN) ∧ Boxed W Bk 95 (.func (.func 94) #[FrmV (some ⟨bl, ol, none⟩) n c (some ⟨bh, oh, none⟩) n d tile (wdTo lo hi n : Nat)] #[]) ∧ W.heap[Bb]? = some (.cells #[.slice (some ⟨bl, ol, none⟩) n c, .slice (some ⟨bh, oh, none⟩) n d] 45 (0, 0)) ∧ Below w.heap.size w W)
    (fun A k W => RkAt w Bk B5 (B5 + 1) (.func (.func 94) #[FrmV (some ⟨bl, ol, none⟩) n c (some ⟨bh, oh, none⟩) n d tile (wdTo lo hi n : Nat)] #[]) OWN Bb (.slice (some ⟨bl, ol, none⟩) n c) (.slice (some ⟨bh, oh, none⟩) n d) (fun t => decide (hilK n (wdTo lo hi n) lo e t < OWN)) A k W)
    (fun _ _ _ => False)
    ?i0 (fun A k hA => rk_steps (by have := HB7w.out; omega) (by have := HB7w.out; omega)) (fun A c hA W W' row h => h.elim)
    ?hy (fun W h => HRd.out W h.2.2.2.1 h.2.2.2.2) (fun A k W h => HRd.out W h.box h.below) ⟨br7, bo7, bk7, hBb, hbw7⟩ ?start
    (fun args => { tmps := #[LayV S s sc O o oc 2 tile form codec, BoxW (some ⟨bl, ol, none⟩) (some ⟨bh, oh, none⟩) n c n d, .slice X n xc, .pointer (some ⟨w.heap.size, 0, none⟩), .pointer (some ⟨w.heap.size + 1, 0, none⟩), undef, .int .i64 0, .int .i64 0, .int .i64 0, .pointer (some ⟨Bk, 0, none⟩), .pointer (some ⟨B5, 0, none⟩), .pointer (some ⟨B5 + 1, 0, none⟩), args.getD 0 undef, .agg #[.slice S s sc, .slice O o oc, .int .i64 2, .int .i64 tile, .int .i64 form, .int .i64 codec], .agg #[.slice (some ⟨bl, ol, none⟩) n c, .slice (some ⟨bh, oh, none⟩) n d], .slice X n xc, .int .i64 n, .int .i64 0, .int .i64 0, .bool false, undef, .agg #[.slice (some ⟨bl, ol, none⟩) n c, .slice (some ⟨bh, oh, none⟩) n d], .slice X n xc, .bool true, .bool false, .agg #[.slice S s sc, .slice O o oc, .int .i64 2, .int .i64 tile, .int .i64 form, .int .i64 codec], .agg #[.slice (some ⟨bl, ol, none⟩) n c, .slice (some ⟨bh, oh, none⟩) n d], .func (.func 94) #[FrmV (some ⟨bl, ol, none⟩) n c (some ⟨bh, oh, none⟩) n d tile (wdTo lo hi n : Nat)] #[], .func (.func 94) #[FrmV (some ⟨bl, ol, none⟩) n c (some ⟨bh, oh, none⟩) n d tile (wdTo lo hi n : Nat)] #[], .slice X n xc, .int .i64 OWN, .agg #[.slice (some ⟨bl, ol, none⟩) n c, .slice (some ⟨bh, oh, none⟩) n d], .func (.func 91) #[] #[.pointer (some ⟨Bb, 0, none⟩)], args.getD 0 undef, undef, undef, undef, undef, undef, undef, undef, undef], defers := [] }) ?assign ?body ?done ?stop
  case i0 =>
    rintro _ W W' row ⟨i1, i2, i3, i4, i5⟩ hg hr
    have hne : ∀ {B : Nat} {cs : Array Value} {t : TypeId}, W.heap[B]? = some (.cells cs t (0, 0)) → some B ≠ row := fun {B cs t} h e => by
      obtain ⟨_, o, ho, hc⟩ := hr B e.symm
      rw [h] at ho; cases ho; cases hc
    exact ⟨i1.kept hg (hne i1), i2.kept hg (hne i2), i3.kept hg (hne i3), (hg.block Bb (Array.getElem?_eq_some_iff.1 i4).1 (hne i4)).trans i4, i5.grown hg i5.size (fun r e => by have := (hr r e).1; have := HB7w.out; omega)⟩
  case hy =>
    rintro ⟨A, k, args⟩ W W' row ⟨v, hv, h⟩ hg hr
    exact ⟨v, hv, crd_elem n lo e _ _ _ _ _ _ h hg fun r e => by obtain ⟨_, o, ho, hc⟩ := hr r e; exact .inr ⟨o, ho, fun cs h => by subst h; cases hc⟩⟩
  case start =>
    rintro A W ⟨i1, i2, i3, i4, i5⟩ hA hAl
    exact ⟨i1, i2, i3, i4, i5, by omega, by omega, by omega, by omega⟩
  case assign =>
    rintro l A k args W K ⟨v, rfl, h⟩ hK
    gi_wp2
    exact hK
  case body =>
    rintro l A k args W hk hA hAl HJ ⟨v, rfl, hv⟩
    obtain ⟨vp, vn, vc, rfl⟩ : ∃ p n c, v = .slice p n c := by obtain ⟨b, c, g, h, _⟩ := hv; exact ⟨_, _, _, h⟩
    obtain ⟨j1, j2, j3, j4, j5, j6⟩ := HJ
    have hbw := j5.size
    gi_wp2
    refine RW.r_less (g := 94) (fr := FrmV (some ⟨bl, ol, none⟩) n c (some ⟨bh, oh, none⟩) n d tile (wdTo lo hi n : Nat)) (vp := vp) (vn := vn) (vc := vc) (ky := hilK n (wdTo lo hi n) lo e k) (own := OWN) (Bk := Bk) (Bo := B5) rfl rfl rfl (dag_of (by kernel_rfl)) (by kernel_rfl) rfl rfl rfl rfl rfl rfl rfl rfl rfl (by kernel_rfl) (by kernel_rfl) rfl rfl rfl rfl rfl rfl (by kernel_rfl) (by kernel_rfl) rfl rfl rfl
      (fun W' hW => (j3.kept (grown_below hW) (by simp)).cell) (fun W' hW => (j2.kept (grown_below hW) (by simp)).cell) (enters_of Tryz.func94 (by kernel_rfl) rfl)
      (fun W' hW => ?_) ?_
    · obtain ⟨P, cc, hx, hP⟩ := crd_ints (crd_elem n lo e _ _ _ _ _ _ hv (grown_below hW) (fun r e => by cases e))
      injection hx with hx1 hx2 hx3
      subst hx1 hx2 hx3
      exact HKc9.out W' _ _ k (j5.trans (hW.mono (by omega))) hP
    · intro a' W' hW hsz hdf h38 h11
      have B2 := j2.kept (grown_below hW) (by simp)
      have B1 := j1.kept (grown_below hW) (by simp)
      have B3 := j3.kept (grown_below hW) (by simp)
      have B4 := (hW.block Bb (Array.getElem?_eq_some_iff.1 j4).1).trans j4
      have B5' : Below w.heap.size w W' := j5.trans (hW.mono (by omega))
      obtain ⟨f, hf, rfl⟩ := actlitf 42 a' hsz (hdf.trans rfl)
      rw [show List.range 42 = [0, 1, 2, 3, 4, 5, 6, 7, 8, 9, 10, 11, 12, 13, 14, 15, 16, 17, 18, 19, 20, 21, 22, 23, 24, 25, 26, 27, 28, 29, 30, 31, 32, 33, 34, 35, 36, 37, 38, 39, 40, 41] from rfl]
      simp only [List.map_cons, List.map_nil]
      have q38 : f 38 = .bool (decide (hilK n (wdTo lo hi n) lo e k < OWN)) := (hf 38).symm.trans h38
      have q11 : f 11 = .pointer (some ⟨B5 + 1, 0, none⟩) := (hf 11).symm.trans h11
      rw [q38, q11]
      clear q38 q11 h38 h11 hf hsz hdf
      have c1 := B1.cell
      have z1 := B1.frozen
      have hAW : A < W'.heap.size := by have := hW.size; omega
      by_cases hp : hilK n (wdTo lo hi n) lo e k < OWN
      · have hpT : (fun t => decide (hilK n (wdTo lo hi n) lo e t < OWN)) k = true := decide_eq_true hp
        rw [decide_eq_true hp]
        have hcle : cntTo (fun t => decide (hilK n (wdTo lo hi n) lo e t < OWN)) k ≤ 1000000 := Nat.le_trans (cntTo_le _ _) (by omega)
        have HC := cntTo_yes (p := fun t => decide (hilK n (wdTo lo hi n) lo e t < OWN)) (k := k) hpT
        generalize hCC : cntTo (fun t => decide (hilK n (wdTo lo hi n) lo e t < OWN)) k = CC at *
        gi_wp2
        have gs := grownBy_setCell' W' (B5 + 1) (.int .i64 ((CC : Int) + 1))
        have hWl : B5 + 1 < W'.heap.size := (Array.getElem?_eq_some_iff.1 B1).1
        have n3 : Bk ≠ B5 + 1 := apart_t B3 B1 (by decide)
        have n4 : Bb ≠ B5 + 1 := apart_t B4 B1 (by decide)
        have nA : A ≠ B5 + 1 := fun e => by have := j6.2.2.1; omega
        refine ⟨(keeps_below hW).trans (KeepsOthers.setCell _ _ _), (gs.block A hAW (by simpa using nA)).trans (hW.block A hAl), ?_, B2.kept gs (by simp), B3.kept gs (by simpa using n3), (gs.block Bb (Array.getElem?_eq_some_iff.1 B4).1 (by simpa using n4)).trans B4, B5'.setCell (by show w.heap.size ≤ B5 + 1; have := HB7w.out; omega) _, j6⟩
        rw [HC]
        exact B1.set _
      · have hpF : (fun t => decide (hilK n (wdTo lo hi n) lo e t < OWN)) k = false := decide_eq_false hp
        rw [decide_eq_false hp]
        have HC := cntTo_no (p := fun t => decide (hilK n (wdTo lo hi n) lo e t < OWN)) (k := k) hpF
        gi_wp2
        exact ⟨keeps_below hW, hW.block A hAl, by rw [HC]; exact B1, B2, B3, B4, B5', j6⟩
  case done =>
    rintro D A W hD HJ hK
    obtain ⟨j1, j2, j3, j4, j5, j6⟩ := HJ
    have c1 := j1.cell
    refine hKO _ _ ?_
    gi_wp2
    refine ⟨by simp, .inl ⟨_, _, rfl, run_takeDeferred hK, ?_⟩⟩
    refine ⟨.tuple #[.int .i64 (cntTo (fun t => decide (hilK n (wdTo lo hi n) lo e t < OWN)) N : Nat), .int .i64 0], by simp [results, Tryz.results16, go_sem], by rw [← HOWN.out], j5.trans (belowK_b (w := w) (Nat.le_refl _) W D _ _ (by have := HB7w.out; omega) hK rfl rfl)⟩
  case stop => exact fun D A c W hD h => h.elim
end Go.Proofs.YtogmbehomilalaaGreatDoor
end
