/- The rank of coordinates in the row-major order. -/
import Derived.Test.YtogmbehomilalaaGreatDoorZSeqR
import Derived.Test.YtogmbehomilalaaGreatDoorZRfC
import Derived.Test.YtogmbehomilalaaGreatDoorZRfLa
import Derived.Test.YtogmbehomilalaaGreatDoorZOpSq
import Derived.Laws.EntriesVeiled
import Derived.Test.YtogmbehomilalaaGreatDoorZSeq
import Derived.Test.YtogmbehomilalaaGreatDoorZExtR

/- The rank of coordinates in the row-major order. -/
section
namespace Go.Proofs.YtogmbehomilalaaGreatDoor
open Go Go.RowKit Go.Deep Go.Shelf Go.Sort
attribute [local go_sem] Oper.semAt_some

set_option maxRecDepth 100000 in
set_option maxHeartbeats 8000000 in
theorem s_RankR (w : World) (S O L H X : Option Addr) (s sc o oc n c d xc : Nat) (tile form codec : Int) (lo hi : Nat → Int) (e : Nat → Nat) (t0 : Nat) (hl : IntsAt w L n lo) (hh : IntsAt w H n hi) (hx : IntsAt w X n (fun k => crdZ lo e n t0 k)) (h1 : 1 ≤ n) (h4 : n ≤ 4) (ho : ordB 1 tile = true)
    (hb : ∀ k, k < n → -9223372036854775808 ≤ lo k ∧ lo k ≤ hi k ∧ hi k ≤ 1073741824 ∧ hi k - lo k < 4096) (he : ∀ k, k < n → 1 ≤ e k ∧ hi k = lo k + e k - 1) (hv : volO lo hi n ≤ 4096) (hv2 : volC e n 0 ≤ 4096) :
    Calls Tryz.prog 16 #[LayV S s sc O o oc 1 tile form codec, BoxW L H n c n d, .slice X n xc] w fun e' w' => e' = .returned (.tuple #[.int .i64 (cntTo (fun t => decide (rmK n lo hi e t < rmK n lo hi e t0)) (volC e n 0) : Nat), .int .i64 0]) ∧ Below w.heap.size w w' := by
  have hpos : ∀ k, k < n → 1 ≤ e k := fun k hk => (he k hk).1
  have hN1 : 1 ≤ volC e n 0 := volC_pos' hpos (Nat.zero_le _)
  have HOE : Hid (∀ W, Below w.heap.size w W → Calls Tryz.prog 46 #[LayV S s sc O o oc 1 tile form codec, BoxW L H n c n d, .int .i64 n] W fun e w' => e = .returned (.int .i64 0) ∧ Below W.heap.size W w') := fun W hW => s_orderError W S O L H s sc o oc n c d 1 tile form codec lo hi (hl.below hW) (hh.below hW) h1 h4 ho hb hv
  have HHa : Hid (∀ W, Below w.heap.size w W → Calls Tryz.prog 57 #[BoxW L H n c n d, .slice X n xc] W fun e w' => e = .returned (.bool true) ∧ Below W.heap.size W w') := fun W hW => (s_Has W L H X n c n d n xc lo hi _ (hl.below hW) (hh.below hW) (hx.below hW) (by omega) (by omega)).mono fun e' w' h => by
    rw [has_crd h1 h4 fun k hk => ⟨hpos k hk, (he k hk).2⟩] at h
    exact h
  have HCO : Hid (∀ W, Calls Tryz.prog 48 #[BoxW L H n c n d] W fun e w' => ∃ Bb, e = .returned (.func (.func 91) #[] #[.pointer (some ⟨Bb, 0, none⟩)]) ∧ Below W.heap.size W w' ∧ W.heap.size ≤ Bb ∧ Bb < w'.heap.size ∧ w'.heap[Bb]? = some (.cells #[.slice L n c, .slice H n d] 45 (0, 0))) := fun W => (c_coordinates W (.slice L n c) (.slice H n d)).mono fun e' w' h => by
    obtain ⟨rfl, rfl⟩ := h
    exact ⟨_, rfl, (Below.refl _ _).alloc (Nat.le_refl _) _, Nat.le_refl _, by simp, heap_alloc_new W _⟩
  have HKE : Hid (∀ W, Below w.heap.size w W → Calls Tryz.prog 49 #[LayV S s sc O o oc 1 tile form codec, BoxW L H n c n d] W fun e w' => e = .returned (.func (.func 95) #[FrmV L n c H n d tile (wdTo lo hi n : Nat)] #[]) ∧ Below W.heap.size W w') := fun W hW => s_keysR W S O L H s sc o oc n c d tile form codec lo hi (hl.below hW) (hh.below hW) (by omega) hb
  have HKy : Hid (∀ W (P : Option Addr) (cc t : Nat), Below w.heap.size w W → IntsAt W P n (fun k => crdZ lo e n t k) → Calls Tryz.prog 95 #[FrmV L n c H n d tile (wdTo lo hi n : Nat), .slice P n cc] W fun e' w' => e' = .returned (.int .i64 (rmK n lo hi e t)) ∧ Below W.heap.size W w') := fun W P cc t hW hP => s_rowMajor W L H P n c d cc tile _ lo hi _ (hl.below hW) (hh.below hW) hP h4 hb (crd_inB he)
  have HEe : Hid (∀ k, k < n → 1 ≤ e k ∧ hi k = lo k + e k - 1 ∧ -9223372036854775808 ≤ lo k ∧ hi k ≤ 4611686018427387904) := fun k hk => ⟨(he k hk).1, (he k hk).2, (hb k hk).1, by have := (hb k hk).2.2.1; omega⟩
  have HIt : Hid (∀ m, 1 ≤ m → ∀ Bb bl ol bh oh, L = some ⟨bl, ol, none⟩ → H = some ⟨bh, oh, none⟩ → IterOwn Fence.wide m Tryz.prog 91 #[.pointer (some ⟨Bb, 0, none⟩)] (ReadsBox Bb bl ol c bh oh d n lo hi) (CrdArg n lo e) (volC e n 0)) := fun m hm Bb bl ol bh oh _ _ => crd_iter m hm Bb bl ol c bh oh d n lo hi e h1 (by omega) (fun k hk => ⟨(he k hk).1, (he k hk).2, (hb k hk).1, by have := (hb k hk).2.2.1; omega⟩)
  have HLH := Lib.hid (And.intro hl (And.intro hh hx))
  have KB := Lib.hid (lay_box w S O s sc o oc 1 tile form codec)
  have HB1 : Hid (Below w.heap.size w (w.alloc (.cells #[.slice S s sc, .slice O o oc, .int .i64 1, .int .i64 tile, .int .i64 form, .int .i64 codec] 43))) := (Below.refl _ _).alloc (Nat.le_refl _) _
  have hz1 : (w.alloc (.cells #[.slice S s sc, .slice O o oc, .int .i64 1, .int .i64 tile, .int .i64 form, .int .i64 codec] 43)).heap.size = w.heap.size + 1 := by simp
  have hNm : volC e n 0 ≤ 1000000 := by omega
  clear hl hh hx ho hb hv hv2 hpos
  obtain ⟨N, hN⟩ : ∃ N, volC e n 0 = N := ⟨_, rfl⟩
  rw [hN] at hNm hN1 ⊢
  refine (callsIn_wide (n := 3)).1 ?_
  refine callsIn_of_wp_marks Tryz.func16 rfl trivial ?_ rfl
  simp only [Tryz.ntmps16, List.size_toArray, List.length_cons, List.length_nil, Nat.reduceAdd, Nat.reduceSub, Array.replicate_succ, Array.replicate_zero, List.push_toArray, List.append_toArray, List.nil_append, List.cons_append]
  gi_wp2_with fail
  generalize w.alloc (.cells #[.slice S s sc, .slice O o oc, .int .i64 1, .int .i64 tile, .int .i64 form, .int .i64 codec] 43) = Wa at *
  have K2 := Lib.hid (box_two Wa (.slice L n c) (.slice H n d) 45)
  have HB2 : Hid (Below Wa.heap.size Wa (Wa.alloc (.cells #[.slice L n c, .slice H n d] 45))) := (Below.refl _ _).alloc (Nat.le_refl _) _
  rw [hz1] at K2 HB2 KB
  have HB3 : Hid (Below w.heap.size w (Wa.alloc (.cells #[.slice L n c, .slice H n d] 45))) := Below.trans HB1.out (HB2.out.mono (by omega))
  generalize hWb : Wa.alloc (.cells #[.slice L n c, .slice H n d] 45) = Wb at *
  have hz2 : Wb.heap.size = w.heap.size + 2 := by rw [← hWb]; simp; omega
  clear hWb
  have KK : Hid (∀ W, Below Wb.heap.size Wb W → (W.cell? ⟨w.heap.size, 0, none⟩ = some (.slice S s sc) ∧ W.cell? ⟨w.heap.size, 1, none⟩ = some (.slice O o oc) ∧ W.cell? ⟨w.heap.size, 2, none⟩ = some (.int .i64 1) ∧ W.cell? ⟨w.heap.size, 3, none⟩ = some (.int .i64 tile) ∧ W.cell? ⟨w.heap.size, 4, none⟩ = some (.int .i64 form) ∧ W.cell? ⟨w.heap.size, 5, none⟩ = some (.int .i64 codec)) ∧ W.cell? ⟨w.heap.size + 1, 0, none⟩ = some (.slice L n c) ∧ W.cell? ⟨w.heap.size + 1, 1, none⟩ = some (.slice H n d)) := fun W hW => ⟨KB.out W (Below.trans HB2.out (hW.mono (by omega))), K2.out W hW⟩
  clear KB K2 HB1 HB2
  refine ⟨trivial, ?_⟩
  refine (callsIn_wide.2 (HOE.out _ HB3.out)).mono ?_
  rintro e1 w1 ⟨rfl, hb1⟩
  obtain ⟨⟨l0, l1, l2, l3, l4, l5⟩, m0, m1⟩ := KK.out w1 hb1
  gi_wp2_with fail
  refine ⟨trivial, ?_⟩
  refine (callsIn_wide.2 (HHa.out _ (st HB3.out hb1))).mono ?_
  rintro e2 w2 ⟨rfl, hb2⟩
  have hb12 := st hb1 hb2
  clear l0 l1 l2 l3 l4 l5 m0 m1
  obtain ⟨⟨l0, l1, l2, l3, l4, l5⟩, m0, m1⟩ := KK.out w2 hb12
  gi_wp2_with fail
  refine ⟨trivial, ?_⟩
  refine (callsIn_wide.2 (HKE.out _ (st HB3.out hb12))).mono ?_
  rintro e3 w3 ⟨rfl, hb3⟩
  have hb13 := st hb12 hb3
  clear l0 l1 l2 l3 l4 l5 m0 m1 hb1 hb2 hb3 hb12 HOE HHa HKE
  gi_wp2_with fail
  obtain ⟨hl, hh, hx⟩ := HLH.out
  obtain ⟨OWN, hOWN⟩ : ∃ OWN, rmK n lo hi e t0 = OWN := ⟨_, rfl⟩
  have HOWN := Lib.hid hOWN
  have bk := Boxed.new w3 95 (.func (.func 95) #[FrmV L n c H n d tile (wdTo lo hi n : Nat)] #[])
  have hb4 : Below Wb.heap.size Wb (w3.alloc (.cells #[.func (.func 95) #[FrmV L n c H n d tile (wdTo lo hi n : Nat)] #[]] 95)) := st hb13 ((Below.refl _ _).alloc (Nat.le_refl _) _)
  have hg3 : w.heap.size + 2 ≤ w3.heap.size := by rw [← hz2]; exact hb13.size
  generalize hBk : w3.heap.size = Bk at *
  generalize w3.alloc (.cells #[.func (.func 95) #[FrmV L n c H n d tile (wdTo lo hi n : Nat)] #[]] 95) = w4 at *
  clear hb13 hBk
  refine ⟨trivial, ?_⟩
  refine (callsIn_wide.2 (HKy.out w4 X xc t0 (st HB3.out hb4) (hx.below (st HB3.out hb4)))).mono ?_
  rw [hOWN]
  rintro e4 w5 ⟨rfl, hb5⟩
  have hb45 := st hb4 hb5
  have bk5 : Boxed w5 Bk 95 (.func (.func 95) #[FrmV L n c H n d tile (wdTo lo hi n : Nat)] #[]) := (hb5.block _ (Array.getElem?_eq_some_iff.1 bk).1).trans bk
  clear bk hb4 hb5 hOWN hx
  have hz5 : w.heap.size + 2 ≤ w5.heap.size := by rw [← hz2]; exact hb45.size
  have HB6 : Hid (Below Wb.heap.size Wb ((w5.alloc (.cells #[.int .i64 OWN] 3)).alloc (.cells #[.int .i64 0] 3))) := (hb45.alloc hb45.size _).alloc (by have := hb45.size; simp; omega) _
  obtain ⟨-, m0, m1⟩ := KK.out _ HB6.out
  have bo6 := (Boxed.new w5 3 (.int .i64 OWN)).alloc (.cells #[.int .i64 0] 3)
  have br6 := Boxed.new (w5.alloc (.cells #[.int .i64 OWN] 3)) 3 (.int .i64 0)
  have bk6 := (bk5.alloc (.cells #[.int .i64 OWN] 3)).alloc (.cells #[.int .i64 0] 3)
  rw [World.size_alloc] at br6
  clear bk5
  gi_wp2_with fail
  clear m0 m1
  have hz6 : ((w5.alloc (.cells #[.int .i64 OWN] 3)).alloc (.cells #[.int .i64 0] 3)).heap.size = w5.heap.size + 2 := by simp
  generalize (w5.alloc (.cells #[.int .i64 OWN] 3)).alloc (.cells #[.int .i64 0] 3) = w6 at *
  generalize hB5 : w5.heap.size = B5 at *
  clear hB5 hb45
  refine ⟨trivial, ?_⟩
  refine (callsIn_wide.2 (HCO.out _)).mono ?_
  rintro e7 w7 ⟨Bb, rfl, hb7, hBb1, hBb2, hBb⟩
  have HB7 : Hid (Below Wb.heap.size Wb w7) := st HB6.out hb7
  have bo7 : Boxed w7 B5 3 (.int .i64 OWN) := (hb7.block _ (Array.getElem?_eq_some_iff.1 bo6).1).trans bo6
  have br7 : Boxed w7 (B5 + 1) 3 (.int .i64 0) := (hb7.block _ (Array.getElem?_eq_some_iff.1 br6).1).trans br6
  have bk7 : Boxed w7 Bk 95 (.func (.func 95) #[FrmV L n c H n d tile (wdTo lo hi n : Nat)] #[]) := (hb7.block _ (Array.getElem?_eq_some_iff.1 bk6).1).trans bk6
  have hB5l : B5 + 1 < w7.heap.size := (Array.getElem?_eq_some_iff.1 br7).1
  clear bo6 br6 bk6 hb7 HB6 HCO
  gi_wp2_with fail
  obtain ⟨bl, ol, rfl, hbl, hcl⟩ := hl (by omega)
  obtain ⟨bh, oh, rfl, hbh, hch⟩ := hh (by omega)
  have HLC : Hid (∀ W, Below w.heap.size w W → ∀ k, k < n → W.cell? ⟨bl, ol + k, none⟩ = some (.int .i64 (lo k)) ∧ W.cell? ⟨bh, oh + k, none⟩ = some (.int .i64 (hi k))) := fun W hW k hk => ⟨(hW.cell (p := ⟨bl, ol + k, none⟩) hbl).trans (hcl k hk), (hW.cell (p := ⟨bh, oh + k, none⟩) hbh).trans (hch k hk)⟩
  have HRd : Hid (∀ W, W.heap[Bb]? = some (.cells #[.slice (some ⟨bl, ol, none⟩) n c, .slice (some ⟨bh, oh, none⟩) n d] 45 (0, 0)) → Below w.heap.size w W → ReadsBox Bb bl ol c bh oh d n lo hi W) := fun W h1 h2 => ⟨by rw [cell_of_row _ _ _ _ _ _ h1]; rfl, by rw [cell_of_row _ _ _ _ _ _ h1]; rfl, HLC.out W h2⟩
  have hbw7 := st HB3.out HB7.out
  have HB7w : Hid (w.heap.size + 2 ≤ w7.heap.size) := by show _ ≤ _; rw [← hz2]; exact HB7.out.size
  have eg : ∀ args w, (callFunc 91 args).run Tryz.prog w = .ok (.enter 91 args) w := enters_of Tryz.func91 (by kernel_rfl) rfl
  have hBk7 : Bk < w7.heap.size := (Array.getElem?_eq_some_iff.1 bk7).1
  have HKc9 : Hid (∀ W (P : Option Addr) (cc t : Nat), Below w.heap.size w W → IntsAt W P n (fun k => crdZ lo e n t k) → Calls Tryz.prog 95 #[FrmV (some ⟨bl, ol, none⟩) n c (some ⟨bh, oh, none⟩) n d tile (wdTo lo hi n : Nat), .slice P n cc] W fun e' w' => e' = .returned (.int .i64 (rmK n lo hi e t)) ∧ Below W.heap.size W w') := HKy.out
  clear hl hh hcl hch HLH HKy KK HB3 HB7 hz2 hz6 HIt
  have HIt : Hid (∀ m, 1 ≤ m → IterOwn Fence.wide m Tryz.prog 91 #[.pointer (some ⟨Bb, 0, none⟩)] (ReadsBox Bb bl ol c bh oh d n lo hi) (CrdArg n lo e) N) := by
    intro m hm
    rw [← hN]
    exact crd_iter m hm Bb bl ol c bh oh d n lo hi e h1 (by omega) HEe.out
  rename_i KO hKO
  refine wpIn_range_own (gf := 91) (lb := #[.pointer (some ⟨Bb, 0, none⟩)]) rfl (by omega) rfl trivial eg (HIt.out _ (by omega))
    (fun A k args W h => by obtain ⟨v, rfl, _⟩ := h; rfl)
    (fun W => Boxed W (B5 + 1) 3 (.int .i64 0) ∧ Boxed W B5 3 (.int .i64 OWN) ∧ Boxed W Bk 95 (.func (.func 95) #[FrmV (some ⟨bl, ol, none⟩) n c (some ⟨bh, oh, none⟩) n d tile (wdTo lo hi n : Nat)] #[]) ∧ W.heap[Bb]? = some (.cells #[.slice (some ⟨bl, ol, none⟩) n c, .slice (some ⟨bh, oh, none⟩) n d] 45 (0, 0)) ∧ Below w.heap.size w W)
    (fun A k W => RkAt w Bk B5 (B5 + 1) (.func (.func 95) #[FrmV (some ⟨bl, ol, none⟩) n c (some ⟨bh, oh, none⟩) n d tile (wdTo lo hi n : Nat)] #[]) OWN Bb (.slice (some ⟨bl, ol, none⟩) n c) (.slice (some ⟨bh, oh, none⟩) n d) (fun t => decide (rmK n lo hi e t < OWN)) A k W)
    (fun _ _ _ => False)
    ?i0 (fun A k hA => rk_steps (by have := HB7w.out; omega) (by have := HB7w.out; omega)) (fun A c hA W W' row h => h.elim)
    ?hy (fun W h => HRd.out W h.2.2.2.1 h.2.2.2.2) (fun A k W h => HRd.out W h.box h.below) ⟨br7, bo7, bk7, hBb, hbw7⟩ ?start
    (fun args => { tmps := #[LayV S s sc O o oc 1 tile form codec, BoxW (some ⟨bl, ol, none⟩) (some ⟨bh, oh, none⟩) n c n d, .slice X n xc, .pointer (some ⟨w.heap.size, 0, none⟩), .pointer (some ⟨w.heap.size + 1, 0, none⟩), undef, .int .i64 0, .int .i64 0, .int .i64 0, .pointer (some ⟨Bk, 0, none⟩), .pointer (some ⟨B5, 0, none⟩), .pointer (some ⟨B5 + 1, 0, none⟩), args.getD 0 undef, .agg #[.slice S s sc, .slice O o oc, .int .i64 1, .int .i64 tile, .int .i64 form, .int .i64 codec], .agg #[.slice (some ⟨bl, ol, none⟩) n c, .slice (some ⟨bh, oh, none⟩) n d], .slice X n xc, .int .i64 n, .int .i64 0, .int .i64 0, .bool false, undef, .agg #[.slice (some ⟨bl, ol, none⟩) n c, .slice (some ⟨bh, oh, none⟩) n d], .slice X n xc, .bool true, .bool false, .agg #[.slice S s sc, .slice O o oc, .int .i64 1, .int .i64 tile, .int .i64 form, .int .i64 codec], .agg #[.slice (some ⟨bl, ol, none⟩) n c, .slice (some ⟨bh, oh, none⟩) n d], .func (.func 95) #[FrmV (some ⟨bl, ol, none⟩) n c (some ⟨bh, oh, none⟩) n d tile (wdTo lo hi n : Nat)] #[], .func (.func 95) #[FrmV (some ⟨bl, ol, none⟩) n c (some ⟨bh, oh, none⟩) n d tile (wdTo lo hi n : Nat)] #[], .slice X n xc, .int .i64 OWN, .agg #[.slice (some ⟨bl, ol, none⟩) n c, .slice (some ⟨bh, oh, none⟩) n d], .func (.func 91) #[] #[.pointer (some ⟨Bb, 0, none⟩)], args.getD 0 undef, undef, undef, undef, undef, undef, undef, undef, undef], defers := [] }) ?assign ?body ?done ?stop
  case i0 =>
    rintro _ W W' row ⟨i1, i2, i3, i4, i5⟩ hg hr
    have hne : ∀ {B : Nat} {cs : Array Value} {t : TypeId}, W.heap[B]? = some (.cells cs t (0, 0)) → some B ≠ row := fun {B cs t} h e => by
      obtain ⟨_, o, ho, hc⟩ := hr B e.symm
      rw [h] at ho; cases ho; cases hc
    exact ⟨i1.kept hg (hne i1), i2.kept hg (hne i2), i3.kept hg (hne i3), (hg.block Bb (Array.getElem?_eq_some_iff.1 i4).1 (hne i4)).trans i4, i5.grown hg i5.size (fun r e => by have := (hr r e).1; have := HB7w.out; omega)⟩
  case hy =>
    rintro ⟨A, k, args⟩ W W' row ⟨v, hv, h⟩ hg hr
    exact ⟨v, hv, crd_elem n lo e _ _ _ _ _ _ h hg fun r e => by obtain ⟨_, o, ho, hc⟩ := hr r e; exact .inr ⟨o, ho, fun cs h => by subst h; cases hc⟩⟩
  case start =>
    rintro A W ⟨i1, i2, i3, i4, i5⟩ hA hAl
    exact ⟨i1, i2, i3, i4, i5, by omega, by omega, by omega, by omega⟩
  case assign =>
    rintro l A k args W K ⟨v, rfl, h⟩ hK
    gi_wp2
    exact hK
  case body =>
    rintro l A k args W hk hA hAl HJ ⟨v, rfl, hv⟩
    obtain ⟨vp, vn, vc, rfl⟩ : ∃ p n c, v = .slice p n c := by obtain ⟨b, c, g, h, _⟩ := hv; exact ⟨_, _, _, h⟩
    obtain ⟨j1, j2, j3, j4, j5, j6⟩ := HJ
    have hbw := j5.size
    gi_wp2
    refine RW.r_less (g := 95) (fr := FrmV (some ⟨bl, ol, none⟩) n c (some ⟨bh, oh, none⟩) n d tile (wdTo lo hi n : Nat)) (vp := vp) (vn := vn) (vc := vc) (ky := rmK n lo hi e k) (own := OWN) (Bk := Bk) (Bo := B5) rfl rfl rfl (dag_of (by kernel_rfl)) (by kernel_rfl) rfl rfl rfl rfl rfl rfl rfl rfl rfl (by kernel_rfl) (by kernel_rfl) rfl rfl rfl rfl rfl rfl (by kernel_rfl) (by kernel_rfl) rfl rfl rfl
      (fun W' hW => (j3.kept (grown_below hW) (by simp)).cell) (fun W' hW => (j2.kept (grown_below hW) (by simp)).cell) (enters_of Tryz.func95 (by kernel_rfl) rfl)
      (fun W' hW => ?_) ?_
    · obtain ⟨P, cc, hx, hP⟩ := crd_ints (crd_elem n lo e _ _ _ _ _ _ hv (grown_below hW) (fun r e => by cases e))
      injection hx with hx1 hx2 hx3
      subst hx1 hx2 hx3
      exact HKc9.out W' _ _ k (j5.trans (hW.mono (by omega))) hP
    · intro a' W' hW hsz hdf h38 h11
      have B2 := j2.kept (grown_below hW) (by simp)
      have B1 := j1.kept (grown_below hW) (by simp)
      have B3 := j3.kept (grown_below hW) (by simp)
      have B4 := (hW.block Bb (Array.getElem?_eq_some_iff.1 j4).1).trans j4
      have B5' : Below w.heap.size w W' := j5.trans (hW.mono (by omega))
      obtain ⟨f, hf, rfl⟩ := actlitf 42 a' hsz (hdf.trans rfl)
      rw [show List.range 42 = [0, 1, 2, 3, 4, 5, 6, 7, 8, 9, 10, 11, 12, 13, 14, 15, 16, 17, 18, 19, 20, 21, 22, 23, 24, 25, 26, 27, 28, 29, 30, 31, 32, 33, 34, 35, 36, 37, 38, 39, 40, 41] from rfl]
      simp only [List.map_cons, List.map_nil]
      have q38 : f 38 = .bool (decide (rmK n lo hi e k < OWN)) := (hf 38).symm.trans h38
      have q11 : f 11 = .pointer (some ⟨B5 + 1, 0, none⟩) := (hf 11).symm.trans h11
      rw [q38, q11]
      clear q38 q11 h38 h11 hf hsz hdf
      have c1 := B1.cell
      have z1 := B1.frozen
      have hAW : A < W'.heap.size := by have := hW.size; omega
      by_cases hp : rmK n lo hi e k < OWN
      · have hpT : (fun t => decide (rmK n lo hi e t < OWN)) k = true := decide_eq_true hp
        rw [decide_eq_true hp]
        have hcle : cntTo (fun t => decide (rmK n lo hi e t < OWN)) k ≤ 1000000 := Nat.le_trans (cntTo_le _ _) (by omega)
        have HC := cntTo_yes (p := fun t => decide (rmK n lo hi e t < OWN)) (k := k) hpT
        generalize hCC : cntTo (fun t => decide (rmK n lo hi e t < OWN)) k = CC at *
        gi_wp2
        have gs := grownBy_setCell' W' (B5 + 1) (.int .i64 ((CC : Int) + 1))
        have hWl : B5 + 1 < W'.heap.size := (Array.getElem?_eq_some_iff.1 B1).1
        have n3 : Bk ≠ B5 + 1 := apart_t B3 B1 (by decide)
        have n4 : Bb ≠ B5 + 1 := apart_t B4 B1 (by decide)
        have nA : A ≠ B5 + 1 := fun e => by have := j6.2.2.1; omega
        refine ⟨(keeps_below hW).trans (KeepsOthers.setCell _ _ _), (gs.block A hAW (by simpa using nA)).trans (hW.block A hAl), ?_, B2.kept gs (by simp), B3.kept gs (by simpa using n3), (gs.block Bb (Array.getElem?_eq_some_iff.1 B4).1 (by simpa using n4)).trans B4, B5'.setCell (by show w.heap.size ≤ B5 + 1; have := HB7w.out; omega) _, j6⟩
        rw [HC]
        exact B1.set _
      · have hpF : (fun t => decide (rmK n lo hi e t < OWN)) k = false := decide_eq_false hp
        rw [decide_eq_false hp]
        have HC := cntTo_no (p := fun t => decide (rmK n lo hi e t < OWN)) (k := k) hpF
        gi_wp2
        exact ⟨keeps_below hW, hW.block A hAl, by rw [HC]; exact B1, B2, B3, B4, B5', j6⟩
  case done =>
    rintro D A W hD HJ hK
    obtain ⟨j1, j2, j3, j4, j5, j6⟩ := HJ
    have c1 := j1.cell
    refine hKO _ _ ?_
    gi_wp2
    refine ⟨by simp, .inl ⟨_, _, rfl, run_takeDeferred hK, ?_⟩⟩
    refine ⟨.tuple #[.int .i64 (cntTo (fun t => decide (rmK n lo hi e t < OWN)) N : Nat), .int .i64 0], by simp [results, Tryz.results16, go_sem], by rw [← HOWN.out], j5.trans (belowK_b (w := w) (Nat.le_refl _) W D _ _ (by have := HB7w.out; omega) hK rfl rfl)⟩
  case stop => exact fun D A c W hD h => h.elim
end Go.Proofs.YtogmbehomilalaaGreatDoor
end

/- The keys of an order: those of the tiled order. -/
section
namespace Go.Proofs.YtogmbehomilalaaGreatDoor
open Go Go.RowKit Go.Deep

set_option maxRecDepth 100000 in
set_option maxHeartbeats 4000000 in
theorem s_keysT (w : World) (S O L H : Option Addr) (s sc o oc n c d : Nat) (tile form codec : Int) (lo hi : Nat → Int) (hl : IntsAt w L n lo) (hh : IntsAt w H n hi) (hn : n ≤ 1000)
    (hb : ∀ k, k < n → -9223372036854775808 ≤ lo k ∧ lo k ≤ hi k ∧ hi k ≤ 1073741824 ∧ hi k - lo k < 4096) :
    Calls Tryz.prog 49 #[LayV S s sc O o oc 3 tile form codec, BoxW L H n c n d] w fun e w' => e = .returned (.func (.func 93) #[FrmV L n c H n d tile (wdTo lo hi n : Nat)] #[]) ∧ Below w.heap.size w w' := by
  have HLo := Lib.hid hl
  have HHi := Lib.hid hh
  have HB := Lib.hid hb
  clear hl hh hb
  have HBL := Lib.hid Tryz.bits_Len
  have KB := Lib.hid (lay_box w S O s sc o oc 3 tile form codec)
  have HB1 : Hid (Below w.heap.size w (w.alloc (.cells #[.slice S s sc, .slice O o oc, .int .i64 3, .int .i64 tile, .int .i64 form, .int .i64 codec] 43))) := (Below.refl _ _).alloc (Nat.le_refl _) _
  have hz1 : (w.alloc (.cells #[.slice S s sc, .slice O o oc, .int .i64 3, .int .i64 tile, .int .i64 form, .int .i64 codec] 43)).heap.size = w.heap.size + 1 := by simp
  go_enter Tryz.func49, Tryz.ntmps49
  go_wp2_with fail
  generalize w.alloc (.cells #[.slice S s sc, .slice O o oc, .int .i64 3, .int .i64 tile, .int .i64 form, .int .i64 codec] 43) = Wa at *
  have K2 := Lib.hid (box_two Wa (.slice L n c) (.slice H n d) 45)
  have HB2 : Hid (Below Wa.heap.size Wa (Wa.alloc (.cells #[.slice L n c, .slice H n d] 45))) := (Below.refl _ _).alloc (Nat.le_refl _) _
  rw [hz1] at K2 HB2 KB
  have HB3 : Hid (Below w.heap.size w (Wa.alloc (.cells #[.slice L n c, .slice H n d] 45))) := Below.trans HB1.out (HB2.out.mono (by omega))
  generalize hWb : Wa.alloc (.cells #[.slice L n c, .slice H n d] 45) = Wb at *
  have hz2 : Wb.heap.size = w.heap.size + 2 := by rw [← hWb]; simp; omega
  clear hWb
  obtain ⟨l0, l1, l2, l3, l4, l5⟩ := KB.out Wb HB2.out
  obtain ⟨m0, m1⟩ := K2.out Wb (Below.refl _ _)
  go_wp2_with fail
  have hr0 : (Wb.alloc (.cells #[.slice L n c, .slice H n d, .int .i64 tile, .int .i64 0] 148)).heap[w.heap.size + 1 + 1]? = some (.cells #[.slice L n c, .slice H n d, .int .i64 tile, .int .i64 ((0 : Nat) : Int)] 148 (0, 0)) := by
    have h := heap_alloc_new Wb (.cells #[.slice L n c, .slice H n d, .int .i64 tile, .int .i64 0] 148)
    rw [hz2] at h
    exact h
  have HB5 : Hid (Below Wb.heap.size Wb (Wb.alloc (.cells #[.slice L n c, .slice H n d, .int .i64 tile, .int .i64 0] 148))) := (Below.refl _ _).alloc (Nat.le_refl _) _
  generalize Wb.alloc (.cells #[.slice L n c, .slice H n d, .int .i64 tile, .int .i64 0] 148) = Wc at *
  clear m0 m1 l0 l1 l2 l3 l4 l5
  go_loopw [6, 7, 15] (fun _ _ i wr => ∃ k u : Nat, k ≤ n ∧ i = .int .i64 k ∧ wr.heap[w.heap.size + 1 + 1]? = some (.cells #[.slice L n c, .slice H n d, .int .i64 tile, .int .i64 (u : Int)] 148 (0, 0)) ∧ Hid (u = wdTo lo hi k) ∧ Hid (Below Wb.heap.size Wb wr)) (fun _ _ i _ => n - (intOf i).toNat)
  case atStart => exact ⟨0, 0, Nat.zero_le _, rfl, hr0, rfl, HB5.out⟩
  case round =>
    obtain ⟨k, u, hk, rfl, hrow, HU, HBr⟩ := hrel
    obtain ⟨m0, m1⟩ := K2.out wr HBr.out
    obtain ⟨l0, -, l2, -⟩ := KB.out wr (Below.trans HB2.out (HBr.out.mono (by omega)))
    have HBw : Hid (Below w.heap.size w wr) := Below.trans HB3.out (HBr.out.mono (by omega))
    obtain ⟨g0, g1, g2, g3, gz⟩ := frm_row _ _ _ _ _ _ hrow
    by_cases hlt : k < n
    · obtain ⟨b1, o1, rfl, _, hc1⟩ := (HHi.out.below HBw.out) (by omega)
      have x0 := hc1 k hlt
      obtain ⟨b2, o2, rfl, _, hc2⟩ := (HLo.out.below HBw.out) (by omega)
      have y0 := hc2 k hlt
      clear hc1 hc2
      obtain ⟨f1, f2, f3⟩ := HB.out k hlt
      obtain ⟨mo, hmo⟩ : ∃ mo : Nat, (mo : Int) = hi k - lo k := ⟨(hi k - lo k).toNat, by omega⟩
      have HR : Hid (wdTo lo hi (k + 1) = max (wdTo lo hi k) (Lib.bitLen mo)) := by show _ = _; rw [wdTo, show (hi k - lo k).toNat = mo by omega]
      rw [← HU.out] at HR
      generalize lo k = x at *
      generalize hi k = y at *
      have hsu : IntKind.i64.wrap (y - x) = y - x := w64 (by omega) (by omega)
      have HL9 : Hid (∀ W, Calls Tryz.prog 92 #[.int .u64 (IntKind.u64.wrap (y - x))] W fun e w' => e = .returned (.int .i64 (Lib.bitLen mo)) ∧ w' = W) := fun W => by
        rw [wrap_u (n := y - x) (by omega) (by omega)]
        have h := HBL.out (y - x) W (by omega) (by omega)
        rwa [← hmo, Int.toNat_natCast, hmo] at h
      clear l0 l2 g0 g1 g2
      go_wp2_with fail
      refine wp_region_still_tail 13 (by kernel_rfl) (by kernel_rfl) ?_
      simp only [List.take_succ_cons, List.take_zero, List.drop_succ_cons, List.drop_zero]
      iterate 10 still_step
      still_call (HL9.out _)
      iterate 2 still_step
      refine wpStill_nil ?_
      change wpList _ _ _ _ _ wr.drew
      have hrow2 : wr.drew.heap[w.heap.size + 1 + 1]? = some (.cells #[.slice (some ⟨b2, o2, none⟩) n c, .slice (some ⟨b1, o1, none⟩) n d, .int .i64 tile, .int .i64 (u : Int)] 148 (0, 0)) := hrow
      have HBr2 : Hid (Below Wb.heap.size Wb wr.drew) := Below.drew HBr.out
      clear g3 gz hrow HBr x0 y0 m0 m1 hsu
      generalize wr.drew = w5 at *
      obtain ⟨-, -, -, g3, gz⟩ := frm_row _ _ _ _ _ _ hrow2
      go_wp2
      have hmx : max (u : Int) (Lib.bitLen mo : Nat) = ((max u (Lib.bitLen mo) : Nat) : Int) := by omega
      exact ⟨⟨k + 1, max u (Lib.bitLen mo), by omega, by go_num, by rw [frm_set hrow2, hmx], HR.out.symm, HBr2.out.setCell (by show Wb.heap.size ≤ w.heap.size + 1 + 1; omega) _⟩, by simp [intOf]; omega⟩
    · obtain rfl : k = n := by omega
      go_wp2
      go_ret
      exact ⟨by rw [← HU.out]; rfl, HBw.out⟩
end Go.Proofs.YtogmbehomilalaaGreatDoor
end

/- The keys of the tiled order. -/
section
namespace Go.Proofs.YtogmbehomilalaaGreatDoor
open Go Go.RowKit Go.Deep

theorem tl_wrap {p y t I : Int} (h : I = p + y / t) (h0 : 0 ≤ p) (h1 : p ≤ 1152921504606846976) (h2 : 0 ≤ y) (h3 : y ≤ 1073741824) (h4 : 1 ≤ t) : IntKind.i64.wrap (IntKind.i64.wrap p + IntKind.i64.wrap ((IntKind.i64.wrap y).tdiv t)) = I := by
  rw [quo_i h2 (by omega) h4, w64 (n := p) (by omega) (by omega)]
  have h5 : 0 ≤ y / t := Int.ediv_nonneg h2 (by omega)
  have h6 : y / t ≤ y := Int.ediv_le_self _ h2
  rw [w64 (by omega) (by omega)]
  exact h.symm
theorem tl_sum {I R : Int} (h0 : 0 ≤ I) (h1 : I ≤ 281474976710656) (h2 : 0 ≤ R) (h3 : R ≤ 281474976710656) : wrap64 (wrap64 (I * 4096) + R) = I * 4096 + R := by
  unfold wrap64
  omega
set_option maxRecDepth 100000 in
set_option maxHeartbeats 4000000 in
theorem s_tiled (w : World) (L H X : Option Addr) (n cl ch cx : Nat) (tile wd : Int) (lo hi xs : Nat → Int) (hl : IntsAt w L n lo) (hh : IntsAt w H n hi) (hx : IntsAt w X n xs) (hn : n ≤ 4) (hb : extB lo hi n) (hi2 : inB lo hi xs n) (ht : 1 ≤ tile ∧ tile ≤ 64) :
    Calls Tryz.prog 93 #[FrmV L n cl H n ch tile wd, .slice X n cx] w fun e w' => e = .returned (.int .i64 (tlZ lo hi xs tile n * 4096 + rmZ lo hi xs n)) ∧ Below w.heap.size w w' := by
  have KB := Lib.hid (frm_box w (.slice L n cl) (.slice H n ch) tile wd)
  have HRM : Hid (∀ W, Below w.heap.size w W → Calls Tryz.prog 95 #[FrmV L n cl H n ch tile wd, .slice X n cx] W fun e w' => e = .returned (.int .i64 (rmZ lo hi xs n)) ∧ Below W.heap.size W w') := fun W hW => s_rowMajor W L H X n cl ch cx tile wd lo hi xs (hl.below hW) (hh.below hW) (hx.below hW) hn hb hi2
  have HRb : Hid (0 ≤ rmZ lo hi xs n ∧ rmZ lo hi xs n < 4096 ^ n) := rmZ_bound hb hi2 n (Nat.le_refl _)
  have HL := Lib.hid hl
  have HX := Lib.hid hx
  have HE : Hid (∀ W k, Below w.heap.size w W → k < n → Calls Tryz.prog 121 #[FrmV L n cl H n ch tile wd, .int .i64 k] W fun e w' => e = .returned (.int .i64 (hi k - lo k + 1)) ∧ Below W.heap.size W w') := fun W k hW hk => s_fextent W L H n cl ch tile wd lo hi k (hl.below hW) (hh.below hW) hk hb
  have HN : Hid (∀ k, k ≤ n → 0 ≤ tlZ lo hi xs tile k ∧ tlZ lo hi xs tile k < 4096 ^ k) := tlZ_bound hb hi2 ht.1
  have HB : Hid (extB lo hi n ∧ inB lo hi xs n) := ⟨hb, hi2⟩
  have HW0 : Hid (Below w.heap.size w (w.alloc (.cells #[.slice L n cl, .slice H n ch, .int .i64 tile, .int .i64 wd] 148))) := (Below.refl _ _).alloc (Nat.le_refl _) _
  have hz0 : (w.alloc (.cells #[.slice L n cl, .slice H n ch, .int .i64 tile, .int .i64 wd] 148)).heap.size = w.heap.size + 1 := by simp
  have HTl := Lib.hid ht
  have ht0 : tile ≠ 0 := by omega
  clear hl hh hx hb hi2
  go_enter Tryz.func93, Tryz.ntmps93
  go_wp2
  rw [hz0] at KB
  generalize w.alloc (.cells #[.slice L n cl, .slice H n ch, .int .i64 tile, .int .i64 wd] 148) = W0 at *
  have HBA : Hid (∀ W, Below (w.heap.size + 1) W0 W → Below w.heap.size w W) := fun W hW => HW0.out.trans (hW.mono (by omega))
  go_loopw [5, 6, 7, 10] (fun v _ _ i wr => ∃ k : Nat, k ≤ n ∧ i = .int .i64 k ∧ v = .int .i64 (tlZ lo hi xs tile k) ∧ Hid (Below (w.heap.size + 1) W0 wr)) (fun _ _ _ i _ => n - (intOf i).toNat)
  case atStart => exact ⟨0, Nat.zero_le _, rfl, rfl, (Below.refl _ _)⟩
  case round =>
    obtain ⟨k, hk, rfl, rfl, HBr⟩ := hrel
    have HBw := Lib.hid (HBA.out wr HBr.out)
    by_cases hlt : k < n
    · obtain ⟨bl, ol, rfl, hbl, hcl⟩ := (HL.out.below HBw.out) (by omega)
      obtain ⟨bx, ox, rfl, hbx, hcx⟩ := (HX.out.below HBw.out) (by omega)
      have x0 := hcx k hlt
      have HKq : Hid (∀ W, Below wr.heap.size wr W → (W.cell? ⟨w.heap.size, 0, none⟩ = some (.slice (some ⟨bl, ol, none⟩) n cl) ∧ W.cell? ⟨w.heap.size, 1, none⟩ = some (.slice H n ch) ∧ W.cell? ⟨w.heap.size, 2, none⟩ = some (.int .i64 tile) ∧ W.cell? ⟨w.heap.size, 3, none⟩ = some (.int .i64 wd)) ∧ W.cell? ⟨bl, ol + k, none⟩ = some (.int .i64 (lo k))) := fun W hW =>
        ⟨KB.out W (HBr.out.trans (hW.mono (by have := HBr.out.size; omega))), (hW.cell (p := ⟨bl, ol + k, none⟩) hbl).trans (hcl k hlt)⟩
      have HEk : Hid (∀ W, Below wr.heap.size wr W → Calls Tryz.prog 121 #[FrmV (some ⟨bl, ol, none⟩) n cl H n ch tile wd, .int .i64 k] W fun e w' => e = .returned (.int .i64 (hi k - lo k + 1)) ∧ Below W.heap.size W w') := fun W hW => HE.out W k (st HBw.out hW) hlt
      have HS : Hid (tlZ lo hi xs tile (k + 1) = tlZ lo hi xs tile k * (hi k - lo k + 1) + (xs k - lo k) / tile) := rfl
      have HN1 := Lib.hid (HN.out (k + 1) (by omega))
      have HN0 := Lib.hid (HN.out k (by omega))
      have HP := Lib.hid (pow4 (k := k) (by omega))
      have HQ := Lib.hid (And.intro (HB.out.1 k hlt) (HB.out.2 k hlt))
      have HPB : Hid (0 ≤ tlZ lo hi xs tile k * (hi k - lo k + 1) ∧ tlZ lo hi xs tile k * (hi k - lo k + 1) ≤ 1152921504606846976) := by
        have a := num_next HN0.out.1 HN0.out.2 (e := hi k - lo k + 1) (y := 0) (by have := HQ.out; omega) (by have := HQ.out; omega) (by omega) (by have := HQ.out; omega)
        have := HP.out
        exact ⟨a.1, by have := a.2.2.2; omega⟩
      have HQt := Lib.hid (quo_small (y := xs k - lo k) (e := hi k - lo k + 1) (t := tile) (by have := HQ.out; omega) (by have := HQ.out; omega) HTl.out.1)
      have hbnd : -9223372036854775808 ≤ hi k - lo k + 1 ∧ hi k - lo k + 1 ≤ 9223372036854775807 := by have := HQ.out; omega
      clear hcl hcx hbx HN1 HN0 HP
      have B0d : Below wr.heap.size wr wr.drew := Below.drew (Below.refl _ _)
      obtain ⟨I', hI⟩ : ∃ I', tlZ lo hi xs tile (k + 1) = I' := ⟨_, rfl⟩
      have HI2 := Lib.hid hI
      rw [hI] at HS
      clear hI
      generalize tlZ lo hi xs tile k = I at *
      generalize hi k - lo k + 1 = E at *
      obtain ⟨⟨m0, m1, m2, m3⟩, y0⟩ := HKq.out wr (Below.refl _ _)
      generalize xs k = z at *
      generalize lo k = l0 at *
      go_wp2_with fail
      go_region_held3 (fun W => (W.cell? ⟨w.heap.size, 0, none⟩ = some (.slice (some ⟨bl, ol, none⟩) n cl) ∧ W.cell? ⟨w.heap.size, 1, none⟩ = some (.slice H n ch) ∧ W.cell? ⟨w.heap.size, 2, none⟩ = some (.int .i64 tile) ∧ W.cell? ⟨w.heap.size, 3, none⟩ = some (.int .i64 wd)) ∧ W.cell? ⟨bl, ol + k, none⟩ = some (.int .i64 l0))
        (first | exact HKq.out _ B1 | exact HKq.out _ B0d | exact HKq.out _ (Below.refl _ _))
        (first
          | (go_at_call 121; refine (HEk.out _ B0d).mono ?_; rintro e w3 ⟨rfl, hb3⟩; have B1 : Below wr.heap.size wr w3 := st B0d hb3))
      all_goals
        go_wp2
        go_roundw
        case rel => exact ⟨k + 1, by omega, by go_num, (by rw [HI2.out]; have := HPB.out; have := HQ.out; exact congrArg _ (tl_wrap HS.out (by omega) (by omega) (by omega) (by omega) HTl.out.1)), HBr.out.trans (B1.mono (by have := HBr.out.size; omega))⟩
        case measure => simp [intOf]; omega
    · obtain rfl : k = n := by omega
      have HRk : Hid (∀ W, Below wr.heap.size wr W → Calls Tryz.prog 95 #[FrmV L k cl H k ch tile wd, .slice X k cx] W fun e w' => e = .returned (.int .i64 (rmZ lo hi xs k)) ∧ Below W.heap.size W w') := fun W hW => HRM.out W (st HBw.out hW)
      have HKq : Hid (∀ W, Below wr.heap.size wr W → W.cell? ⟨w.heap.size, 0, none⟩ = some (.slice L k cl) ∧ W.cell? ⟨w.heap.size, 1, none⟩ = some (.slice H k ch) ∧ W.cell? ⟨w.heap.size, 2, none⟩ = some (.int .i64 tile) ∧ W.cell? ⟨w.heap.size, 3, none⟩ = some (.int .i64 wd)) := fun W hW => KB.out W (HBr.out.trans (hW.mono (by have := HBr.out.size; omega)))
      obtain ⟨m0, m1, m2, m3⟩ := HKq.out wr (Below.refl _ _)
      have HTk := Lib.hid (HN.out k (Nat.le_refl _))
      have HP := Lib.hid (pow4 (k := k) hn)
      have B0d : Below wr.heap.size wr wr.drew := Below.drew (Below.refl _ _)
      go_wp2_with fail
      refine (HRk.out _ (Below.refl _ _)).mono ?_
      rintro e w3 ⟨rfl, hb3⟩
      go_wp2
      go_ret
      exact ⟨congrArg Ending.returned (congrArg (Value.int .i64) (tl_sum HTk.out.1 (by have := HTk.out.2; have := HP.out; omega) HRb.out.1 (by have := HRb.out.2; have := HP.out; omega))), st HBw.out hb3⟩
end Go.Proofs.YtogmbehomilalaaGreatDoor
end

/- The coordinates of a box in the tiled order. -/
section
namespace Go.Proofs.YtogmbehomilalaaGreatDoor
open Go Go.RowKit Go.Deep Go.Shelf

set_option maxRecDepth 100000 in
set_option maxHeartbeats 4000000 in
theorem s_SeqT (w : World) (S O L H : Option Addr) (s sc o oc n c d : Nat) (tile form codec : Int) (lo hi : Nat → Int) (e : Nat → Nat) (hl : IntsAt w L n lo) (hh : IntsAt w H n hi) (h1 : 1 ≤ n) (h4 : n ≤ 4) (ho : ordB 3 tile = true)
    (hb : ∀ k, k < n → -9223372036854775808 ≤ lo k ∧ lo k ≤ hi k ∧ hi k ≤ 1073741824 ∧ hi k - lo k < 4096) (he : ∀ k, k < n → 1 ≤ e k ∧ hi k = lo k + e k - 1) (hv : volO lo hi n ≤ 4096) (hv2 : volC e n 0 ≤ 4096) :
    Calls Tryz.prog 14 #[LayV S s sc O o oc 3 tile form codec, BoxW L H n c n d] w fun e' w' => ∃ b, e' = .returned (.tuple #[.slice (some ⟨b, 0, none⟩) (volC e n 0) (volC e n 0), .int .i64 0]) ∧ ListsAt w' (some ⟨b, 0, none⟩) (volC e n 0) (fun _ => n) (fun t k => crdZ lo e n ((pairR (tlK n lo hi tile e) (volC e n 0))[t]!).2 k) ∧ Below w.heap.size w w' := by
  have hN1 : 1 ≤ volC e n 0 := volC_pos' (fun k hk => (he k hk).1) (Nat.zero_le _)
  have HOE : Hid (∀ W, Below w.heap.size w W → Calls Tryz.prog 46 #[LayV S s sc O o oc 3 tile form codec, BoxW L H n c n d, .int .i64 n] W fun e w' => e = .returned (.int .i64 0) ∧ Below W.heap.size W w') := fun W hW => s_orderError W S O L H s sc o oc n c d 3 tile form codec lo hi (hl.below hW) (hh.below hW) h1 h4 ho hb hv
  have HCO : Hid (∀ W, Calls Tryz.prog 48 #[BoxW L H n c n d] W fun e w' => ∃ Bb, e = .returned (.func (.func 91) #[] #[.pointer (some ⟨Bb, 0, none⟩)]) ∧ Below W.heap.size W w' ∧ Bb < w'.heap.size ∧ w'.heap[Bb]? = some (.cells #[.slice L n c, .slice H n d] 45 (0, 0))) := fun W => (c_coordinates W (.slice L n c) (.slice H n d)).mono fun e' w' h => by
    obtain ⟨rfl, rfl⟩ := h
    exact ⟨_, rfl, (Below.refl _ _).alloc (Nat.le_refl _) _, by simp, heap_alloc_new W _⟩
  have HKE : Hid (∀ W, Below w.heap.size w W → Calls Tryz.prog 49 #[LayV S s sc O o oc 3 tile form codec, BoxW L H n c n d] W fun e w' => e = .returned (.func (.func 93) #[FrmV L n c H n d tile (wdTo lo hi n : Nat)] #[]) ∧ Below W.heap.size W w') := fun W hW => s_keysT W S O L H s sc o oc n c d tile form codec lo hi (hl.below hW) (hh.below hW) (by omega) hb
  have HSO : Hid (∀ W Bb W1, Below w.heap.size w W1 → Below W1.heap.size W1 W → Bb < W1.heap.size → W1.heap[Bb]? = some (.cells #[.slice L n c, .slice H n d] 45 (0, 0)) → Calls Tryz.prog 47 #[.func (.func 91) #[] #[.pointer (some ⟨Bb, 0, none⟩)], .func (.func 93) #[FrmV L n c H n d tile (wdTo lo hi n : Nat)] #[], .func (.func 50) #[] #[]] W fun e' w' => ∃ b, e' = .returned (.slice (some ⟨b, 0, none⟩) (volC e n 0) (volC e n 0)) ∧ ListsAt w' (some ⟨b, 0, none⟩) (volC e n 0) (fun _ => n) (fun t k => crdZ lo e n ((pairR (tlK n lo hi tile e) (volC e n 0))[t]!).2 k) ∧ Below W.heap.size W w') := fun W Bb W1 hW1 hW hB hBb => by
    have hWw : Below w.heap.size w W := hW1.trans (hW.mono hW1.size)
    obtain ⟨bl, ol, rfl, hbl, hcl⟩ := (hl.below hWw) (by omega)
    obtain ⟨bh, oh, rfl, hbh, hch⟩ := (hh.below hWw) (by omega)
    have hb2 : W.heap[Bb]? = _ := (hW.block Bb hB).trans hBb
    have hB2 : Bb < W.heap.size := Nat.lt_of_lt_of_le hB hW.size
    refine (c_sorted W _ _ (enters_of Tryz.func91 (by kernel_rfl) rfl) (N := volC e n 0) (by omega) hN1
      (fun m hm => crd_iter m hm Bb bl ol c bh oh d n lo hi e h1 (by omega) (fun k hk => ⟨(he k hk).1, (he k hk).2, (hb k hk).1, by have := (hb k hk).2.2.1; omega⟩)) (crd_elem n lo e) (fun A t v W h => by obtain ⟨b, c, g, h, _⟩ := h; exact ⟨_, _, _, h⟩)
      (fun U hU => ?_) 93 _ (enters_of Tryz.func93 (by kernel_rfl) rfl) (tlK n lo hi tile e) ?_).mono ?_
    · have hU2 := (hU.block Bb hB2).trans hb2
      exact ⟨by rw [cell_of_row _ _ _ _ _ _ hU2]; rfl, by rw [cell_of_row _ _ _ _ _ _ hU2]; rfl, fun k hk => ⟨(hU.cell (p := ⟨bl, ol + k, none⟩) hbl).trans (hcl k hk), (hU.cell (p := ⟨bh, oh + k, none⟩) hbh).trans (hch k hk)⟩⟩
    · intro A t v U ht hv hU
      obtain ⟨P, cc, rfl, hP⟩ := crd_ints hv
      have hUw : Below w.heap.size w U := hWw.trans (hU.mono hWw.size)
      exact (s_tiled U (some ⟨bl, ol, none⟩) (some ⟨bh, oh, none⟩) P n c d cc tile _ lo hi _ (hl.below hUw) (hh.below hUw) hP h4 hb (fun k hk => by
        have hd := digC_lt (t := t) (fun k hk => (he k hk).1) hk
        have hk1 := he k hk
        unfold crdZ
        omega) (ord_tile ho)).mono fun e9 w9 h9 => h9
    · rintro e' w' ⟨b, A, xs, rfl, q1, q2, q3, q4⟩
      refine ⟨b, rfl, fun _ => ⟨b, 0, rfl, q2.lt, fun k hk => ?_⟩, q4⟩
      obtain ⟨P, cc, hx, hP⟩ := crd_ints (q3 _ (pairR_lt (tlK n lo hi tile e) (volC e n 0) k hk))
      exact ⟨P, cc, by rw [Nat.zero_add, q2.cell hk, hx], hP, by show n ≤ 1000000; omega⟩
  have KB := Lib.hid (lay_box w S O s sc o oc 3 tile form codec)
  have HB1 : Hid (Below w.heap.size w (w.alloc (.cells #[.slice S s sc, .slice O o oc, .int .i64 3, .int .i64 tile, .int .i64 form, .int .i64 codec] 43))) := (Below.refl _ _).alloc (Nat.le_refl _) _
  have hz1 : (w.alloc (.cells #[.slice S s sc, .slice O o oc, .int .i64 3, .int .i64 tile, .int .i64 form, .int .i64 codec] 43)).heap.size = w.heap.size + 1 := by simp
  generalize tlK n lo hi tile e = ky at *
  generalize wdTo lo hi n = wd at *
  generalize volC e n 0 = N at *
  clear hl hh h1 h4 ho hb he hv hv2 hN1
  go_enter Tryz.func14, Tryz.ntmps14
  go_wp2_with fail
  generalize w.alloc (.cells #[.slice S s sc, .slice O o oc, .int .i64 3, .int .i64 tile, .int .i64 form, .int .i64 codec] 43) = Wa at *
  have K2 := Lib.hid (box_two Wa (.slice L n c) (.slice H n d) 45)
  have HB2 : Hid (Below Wa.heap.size Wa (Wa.alloc (.cells #[.slice L n c, .slice H n d] 45))) := (Below.refl _ _).alloc (Nat.le_refl _) _
  rw [hz1] at K2 HB2 KB
  have HB3 : Hid (Below w.heap.size w (Wa.alloc (.cells #[.slice L n c, .slice H n d] 45))) := Below.trans HB1.out (HB2.out.mono (by omega))
  generalize hWb : Wa.alloc (.cells #[.slice L n c, .slice H n d] 45) = Wb at *
  have hz2 : Wb.heap.size = w.heap.size + 2 := by rw [← hWb]; simp; omega
  clear hWb
  have KK : Hid (∀ W, Below Wb.heap.size Wb W → (W.cell? ⟨w.heap.size, 0, none⟩ = some (.slice S s sc) ∧ W.cell? ⟨w.heap.size, 1, none⟩ = some (.slice O o oc) ∧ W.cell? ⟨w.heap.size, 2, none⟩ = some (.int .i64 3) ∧ W.cell? ⟨w.heap.size, 3, none⟩ = some (.int .i64 tile) ∧ W.cell? ⟨w.heap.size, 4, none⟩ = some (.int .i64 form) ∧ W.cell? ⟨w.heap.size, 5, none⟩ = some (.int .i64 codec)) ∧ W.cell? ⟨w.heap.size + 1, 0, none⟩ = some (.slice L n c) ∧ W.cell? ⟨w.heap.size + 1, 1, none⟩ = some (.slice H n d)) := fun W hW => ⟨KB.out W (Below.trans HB2.out (hW.mono (by omega))), K2.out W hW⟩
  clear KB K2 HB1 HB2
  obtain ⟨⟨l0, l1, l2, l3, l4, l5⟩, m0, m1⟩ := KK.out Wb (Below.refl _ _)
  go_wp2_with (first
    | (go_at_call 46; refine (HOE.out _ HB3.out).mono ?_; rintro e w1 ⟨rfl, hb1⟩; obtain ⟨⟨l0, l1, l2, l3, l4, l5⟩, m0, m1⟩ := KK.out w1 hb1))
  clear l0 l1 l2 l3 l4 l5 m0 m1
  have B0 : Below w.heap.size w w1 := st HB3.out hb1
  have KC : Hid (∀ W, Below w1.heap.size w1 W → (W.cell? ⟨w.heap.size, 0, none⟩ = some (.slice S s sc) ∧ W.cell? ⟨w.heap.size, 1, none⟩ = some (.slice O o oc) ∧ W.cell? ⟨w.heap.size, 2, none⟩ = some (.int .i64 3) ∧ W.cell? ⟨w.heap.size, 3, none⟩ = some (.int .i64 tile) ∧ W.cell? ⟨w.heap.size, 4, none⟩ = some (.int .i64 form) ∧ W.cell? ⟨w.heap.size, 5, none⟩ = some (.int .i64 codec)) ∧ W.cell? ⟨w.heap.size + 1, 0, none⟩ = some (.slice L n c) ∧ W.cell? ⟨w.heap.size + 1, 1, none⟩ = some (.slice H n d)) := fun W hW => KK.out W (hb1.trans (hW.mono hb1.size))
  have B0d : Below w1.heap.size w1 w1.drew := Below.drew (Below.refl _ _)
  clear KK HB3
  go_region_held3 (fun W => (W.cell? ⟨w.heap.size, 0, none⟩ = some (.slice S s sc) ∧ W.cell? ⟨w.heap.size, 1, none⟩ = some (.slice O o oc) ∧ W.cell? ⟨w.heap.size, 2, none⟩ = some (.int .i64 3) ∧ W.cell? ⟨w.heap.size, 3, none⟩ = some (.int .i64 tile) ∧ W.cell? ⟨w.heap.size, 4, none⟩ = some (.int .i64 form) ∧ W.cell? ⟨w.heap.size, 5, none⟩ = some (.int .i64 codec)) ∧ W.cell? ⟨w.heap.size + 1, 0, none⟩ = some (.slice L n c) ∧ W.cell? ⟨w.heap.size + 1, 1, none⟩ = some (.slice H n d))
    (first | exact KC.out _ (st (st hb2 hb3) hb4) | exact KC.out _ (st hb2 hb3) | exact KC.out _ hb2 | exact KC.out _ B0d | exact KC.out _ (Below.refl _ _))
    (first
      | (go_at_call 48; refine (HCO.out _).mono ?_; rintro e w2 ⟨Bb, rfl, hb2', hk2, hk3⟩; have hb2 : Below w1.heap.size w1 w2 := st B0d hb2')
      | (go_at_call 49; refine (HKE.out _ (st B0 hb2)).mono ?_; rintro e w3 ⟨rfl, hb3⟩)
      | (go_at_call 47; refine (HSO.out _ Bb w2 (st B0 hb2) hb3 hk2 hk3).mono ?_; rintro e w4 ⟨b, rfl, hL, hb4⟩))
  all_goals
    go_wp2
    go_ret2
    exact ⟨b, rfl, hL, st B0 (st (st hb2 hb3) hb4)⟩
end Go.Proofs.YtogmbehomilalaaGreatDoor
end
