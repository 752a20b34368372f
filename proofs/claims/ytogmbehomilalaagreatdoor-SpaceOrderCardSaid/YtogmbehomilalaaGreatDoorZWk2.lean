/- What holds of the driver's examples. -/
import Derived.Test.YtogmbehomilalaaGreatDoorZSds
import Derived.Test.YtogmbehomilalaaGreatDoorZSpJ
import Derived.Test.YtogmbehomilalaaGreatDoorZSeq
import Derived.Test.YtogmbehomilalaaGreatDoorZCmpS

/- What holds of the driver's examples. -/
section
namespace Go.Proofs.YtogmbehomilalaaGreatDoor
open Go Go.RowKit Go.Deep

theorem nm_ok : nameB (nmS 0) = true ∧ nameB (nmS 1) = true := ⟨by kernel_rfl, by kernel_rfl⟩
theorem in_none (s : ByteArray) : inN [] s = false := inN_false.2 (by simp)
theorem in_one : inN [nmS 0] (nmS 1) = false := inN_false.2 (by
  intro h
  rw [List.mem_singleton] at h
  exact absurd h (by decide))
theorem dims_ok (lo hi : Nat → Int) (h : ∀ k, k < 2 → -1073741824 ≤ lo k ∧ lo k ≤ 1073741824 ∧ lo k ≤ hi k ∧ hi k ≤ 1073741825) : dimsZ nmS lo hi 2 = 0 := by
  have h0 := h 0 (by omega)
  have h1 := h 1 (by omega)
  have d0 : dimsTo [] nmS lo hi 1 = 0 := by
    simp only [dimsTo, metK, dimE, nm_ok.1, in_none, Bool.not_false, Bool.and_self, if_true]
    rw [if_neg (by omega)]
  have d1 : dimsTo [] nmS lo hi 2 = 0 := by
    rw [dimsTo, if_pos d0]
    show dimE [nmS 0] (nmS 1) (lo 1) (hi 1) = 0
    simp only [dimE, nm_ok.2, in_one, Bool.not_false, Bool.and_self, if_true]
    rw [if_neg (by omega)]
  unfold dimsZ dimsEr
  rw [if_neg (by omega), d1]
theorem two {P : Nat → Prop} (h0 : P 0) (h1 : P 1) : ∀ k, k < 2 → P k := fun k hk => by
  rcases (by omega : k = 0 ∨ k = 1) with rfl | rfl <;> assumption
theorem lay_ok : layE nmS (pairZ (-2) 0) (pairZ 5 1073741825) 2 (pairZ 4 3) (pairZ 1 0) 2 2 1 0 1 1 = 0 := by
  have hd : dimsZ nmS (pairZ (-2) 0) (pairZ 5 1073741825) 2 = 0 := dims_ok _ _ (two (by decide) (by decide))
  unfold layE
  rw [hd, if_neg (by simp), if_neg (by omega)]
  refine Eq.trans (b := (0 : Int)) ?_ rfl
  kernel_rfl
theorem at_ok : atE nmS (pairZ (-2) 0) (pairZ 5 1073741825) 2 (pairZ 4 3) (pairZ 1 0) 2 2 1 0 1 1 (pairZ 1 7) 2 = 0 := by
  unfold atE
  rw [lay_ok]
  kernel_rfl
theorem core_ok : coreE nmS (pairZ (-2) 0) (pairZ 5 1073741825) 2 (pairZ 4 3) (pairZ 1 0) 2 2 1 0 1 1 (pairZ 0 2) 2 = 0 := by
  unfold coreE
  rw [lay_ok]
  kernel_rfl
theorem home_two : volC (homeN (pairZ (-2) 0) (pairZ 5 1073741825) (pairZ 4 3) (pairZ 1 0) (pairZ 1 7)) 2 0 = 2 := by kernel_rfl
theorem attr_ok : schE nmS (pairZ 0 0) (pairZ 3 1) 2 (fun _ => ⟨#[118]⟩) (fun _ => 2) 1 = 0 := by
  have hd : dimsZ nmS (pairZ 0 0) (pairZ 3 1) 2 = 0 := dims_ok _ _ (two (by decide) (by decide))
  have hn : nameB ⟨#[118]⟩ = true := by kernel_rfl
  have hi : inN [nmS 1, nmS 0] ⟨#[118]⟩ = false := inN_false.2 (by
    intro h
    rw [List.mem_cons, List.mem_singleton] at h
    rcases h with h | h <;> exact absurd h (by decide))
  unfold schE
  rw [hd, if_neg (by simp), if_neg (by omega)]
  show attrsTo [nmS 1, nmS 0] (fun _ => ⟨#[118]⟩) (fun _ => 2) 1 = 0
  simp only [attrsTo, metK, attrE, hn, hi, Bool.not_false, Bool.and_self, if_true]
  rw [if_neg (by omega)]
theorem check_ok : checkE nmS (pairZ 0 0) (pairZ 3 1) 2 (fun _ => ⟨#[118]⟩) (fun _ => 2) 1 4 (fun _ => 2) (fun _ => 1) xS vkS vnS vdS vsS = 0 := by
  unfold checkE manyE
  rw [attr_ok]
  kernel_rfl
theorem text_ok : dimsT nmS (pairZ 0 0) (pairZ 3 1) 2 ++ attrsT (fun _ => ⟨#[118]⟩) (fun _ => 2) 1 ++ rowsT (fun _ => 2) (fun _ => 1) xS vkS vnS vdS vsS 4 = [100, 105, 109, 32, 120, 32, 48, 58, 51, 10, 100, 105, 109, 32, 121, 32, 48, 58, 49, 10, 97, 116, 116, 114, 32, 118, 32, 105, 110, 116, 10, 48, 32, 48, 58, 32, 53, 10, 49, 32, 48, 58, 32, 55, 10, 49, 32, 49, 58, 32, 63, 49, 10, 51, 32, 49, 58, 32, 50, 10] := by kernel_rfl
end Go.Proofs.YtogmbehomilalaaGreatDoor
end

/- The driver's works, of layer 2. -/
section
namespace Go.Proofs.YtogmbehomilalaaGreatDoor
open Go Go.RowKit Go.Deep Go.Sort

theorem own_slice {W : World} {base e : Nat} {v : Value} {N : Nat} {xs : List Value} (h : W.ownsRow base e 1 v N xs) (hN : 1 ≤ N) : ∃ g cap, v = .slice (some ⟨g, 0, none⟩) N cap := by
  rcases h.2 with ⟨_, h0⟩ | ⟨g, cap, cur, h1, _⟩
  · omega
  · exact ⟨g, cap, h1⟩
theorem two_new (W : World) (x y : Int) (n : Nat) (h : W.heap.size = n) : IntsAt (W.alloc (.cells #[.int .i64 x, .int .i64 y] 3)) (some ⟨n, 0, none⟩) 2 (pairZ x y) := by
  subst h
  exact ints_two (heap_alloc_new W _)
theorem bel_new (W : World) (o : Obj) : Below W.heap.size W (W.alloc o) := (Below.refl _ _).alloc (Nat.le_refl _) _
abbrev layS (bs bo : Nat) : Value := LayV (some ⟨bs, 0, none⟩) 2 2 (some ⟨bo, 0, none⟩) 2 2 1 0 1 1
def eS (k : Nat) : Nat := if k = 0 then 3 else 2
def exX (t : Nat) : Int := if t = 0 then 0 else if t = 1 then 1 else if t = 2 then 1 else if t = 3 then 0 else 2
def exY (t : Nat) : Int := if t = 0 then 0 else if t = 1 then 0 else if t = 2 then 1 else if t = 3 then 1 else if t = 4 then 1 else 0
theorem seq_same : sameL 6 6 (fun _ => 2) (fun _ => 2) (fun t k => crdZ (pairZ 0 0) eS 2 ((pairR (hilK 2 (wdTo (pairZ 0 0) (pairZ 2 1) 2) (pairZ 0 0) eS) 6)[t]!).2 k) (fun t => pairZ (exX t) (exY t)) = true := by kernel_rfl
theorem vol_six : volC eS 2 0 = 6 := by kernel_rfl
set_option maxRecDepth 100000 in
theorem s_SeqEx (w : World) (l h : Nat) (hl : IntsAt w (some ⟨l, 0, none⟩) 2 (pairZ 0 0)) (hh : IntsAt w (some ⟨h, 0, none⟩) 2 (pairZ 2 1)) :
    Calls Tryz.prog 14 #[LayV none 0 0 none 0 0 2 0 0 0, BoxW (some ⟨l, 0, none⟩) (some ⟨h, 0, none⟩) 2 2 2 2] w fun e' w' => ∃ b, e' = .returned (.tuple #[.slice (some ⟨b, 0, none⟩) 6 6, .int .i64 0]) ∧ ListsAt w' (some ⟨b, 0, none⟩) 6 (fun _ => 2) (fun t k => crdZ (pairZ 0 0) eS 2 ((pairR (hilK 2 (wdTo (pairZ 0 0) (pairZ 2 1) 2) (pairZ 0 0) eS) 6)[t]!).2 k) ∧ Below w.heap.size w w' := by
  have h1 := s_Seq w none none (some ⟨l, 0, none⟩) (some ⟨h, 0, none⟩) 0 0 0 0 2 2 2 0 0 0 (pairZ 0 0) (pairZ 2 1) eS hl hh (by omega) (by omega) (by kernel_rfl) (two (by decide) (by decide)) (two (by decide) (by decide)) (by decide) (by decide) (by decide)
  rw [vol_six] at h1
  exact h1
theorem ex_cells : ∀ k, k < 4 → 2 ≤ 10 ∧ 1 ≤ 9 ∧ (∀ j, j < 2 → -9223372036854775808 ≤ xS k j ∧ xS k j ≤ 9223372036854775807) ∧ ∀ j, j < 1 → (prnV (vkS k j) (vnS k j) (vdS k j) (vsS k j)).size ≤ 1000 := fun k hk => by
  refine ⟨by omega, by omega, ?_, fun j hj => ?_⟩
  · rcases (by omega : k = 0 ∨ k = 1 ∨ k = 2 ∨ k = 3) with rfl | rfl | rfl | rfl <;> exact two (by decide) (by decide)
  · obtain rfl : j = 0 := by omega
    rcases (by omega : k = 0 ∨ k = 1 ∨ k = 2 ∨ k = 3) with rfl | rfl | rfl | rfl
    · have e : (prnV 2 5 1 noS).size = 1 := by kernel_rfl
      show (prnV 2 5 1 noS).size ≤ 1000
      rw [e]; omega
    · have e : (prnV 2 7 1 noS).size = 1 := by kernel_rfl
      show (prnV 2 7 1 noS).size ≤ 1000
      rw [e]; omega
    · have e : (prnV 0 1 0 noS).size = 2 := by kernel_rfl
      show (prnV 0 1 0 noS).size ≤ 1000
      rw [e]; omega
    · have e : (prnV 2 2 1 noS).size = 1 := by kernel_rfl
      show (prnV 2 2 1 noS).size ≤ 1000
      rw [e]; omega
theorem lists_six (w : World) : ListsAt (((((((w.alloc (.cells #[.int .i64 0, .int .i64 0] 3)).alloc (.cells #[.int .i64 1, .int .i64 0] 3)).alloc (.cells #[.int .i64 1, .int .i64 1] 3)).alloc (.cells #[.int .i64 0, .int .i64 1] 3)).alloc (.cells #[.int .i64 2, .int .i64 1] 3)).alloc (.cells #[.int .i64 2, .int .i64 0] 3)).alloc (.cells #[.slice (some ⟨w.heap.size, 0, none⟩) 2 2, .slice (some ⟨w.heap.size + 1, 0, none⟩) 2 2, .slice (some ⟨w.heap.size + 1 + 1, 0, none⟩) 2 2, .slice (some ⟨w.heap.size + 1 + 1 + 1, 0, none⟩) 2 2, .slice (some ⟨w.heap.size + 1 + 1 + 1 + 1, 0, none⟩) 2 2, .slice (some ⟨w.heap.size + 1 + 1 + 1 + 1 + 1, 0, none⟩) 2 2] 35)) (some ⟨w.heap.size + 1 + 1 + 1 + 1 + 1 + 1, 0, none⟩) 6 (fun _ => 2) (fun t => pairZ (exX t) (exY t)) ∧ Below w.heap.size w (((((((w.alloc (.cells #[.int .i64 0, .int .i64 0] 3)).alloc (.cells #[.int .i64 1, .int .i64 0] 3)).alloc (.cells #[.int .i64 1, .int .i64 1] 3)).alloc (.cells #[.int .i64 0, .int .i64 1] 3)).alloc (.cells #[.int .i64 2, .int .i64 1] 3)).alloc (.cells #[.int .i64 2, .int .i64 0] 3)).alloc (.cells #[.slice (some ⟨w.heap.size, 0, none⟩) 2 2, .slice (some ⟨w.heap.size + 1, 0, none⟩) 2 2, .slice (some ⟨w.heap.size + 1 + 1, 0, none⟩) 2 2, .slice (some ⟨w.heap.size + 1 + 1 + 1, 0, none⟩) 2 2, .slice (some ⟨w.heap.size + 1 + 1 + 1 + 1, 0, none⟩) 2 2, .slice (some ⟨w.heap.size + 1 + 1 + 1 + 1 + 1, 0, none⟩) 2 2] 35)) := by
  simp only [alloc_eq_grow, grow_grow, List.append_toArray, List.cons_append, List.nil_append]
  refine ⟨fun _ => ⟨_, 0, rfl, at_lt (grow_at w _ 6 _ rfl), fun k hk => ?_⟩, grow_bel _ _⟩
  rcases (by omega : k = 0 ∨ k = 1 ∨ k = 2 ∨ k = 3 ∨ k = 4 ∨ k = 5) with rfl | rfl | rfl | rfl | rfl | rfl
  · exact ⟨_, _, (cell_of_row _ _ _ _ _ _ (grow_at w _ 6 _ rfl)).trans rfl, ints_two (grow_at w _ 0 _ rfl), by show 2 ≤ 1000000; omega⟩
  · exact ⟨_, _, (cell_of_row _ _ _ _ _ _ (grow_at w _ 6 _ rfl)).trans rfl, ints_two (grow_at w _ 1 _ rfl), by show 2 ≤ 1000000; omega⟩
  · exact ⟨_, _, (cell_of_row _ _ _ _ _ _ (grow_at w _ 6 _ rfl)).trans rfl, ints_two (grow_at w _ 2 _ rfl), by show 2 ≤ 1000000; omega⟩
  · exact ⟨_, _, (cell_of_row _ _ _ _ _ _ (grow_at w _ 6 _ rfl)).trans rfl, ints_two (grow_at w _ 3 _ rfl), by show 2 ≤ 1000000; omega⟩
  · exact ⟨_, _, (cell_of_row _ _ _ _ _ _ (grow_at w _ 6 _ rfl)).trans rfl, ints_two (grow_at w _ 4 _ rfl), by show 2 ≤ 1000000; omega⟩
  · exact ⟨_, _, (cell_of_row _ _ _ _ _ _ (grow_at w _ 6 _ rfl)).trans rfl, ints_two (grow_at w _ 5 _ rfl), by show 2 ≤ 1000000; omega⟩
set_option maxRecDepth 100000 in
set_option maxHeartbeats 8000000 in
theorem w_works (w : World) (ml : Int) (htab : Tab w) (htt : TyTab w) (hml : w.cell? ⟨6, 0, none⟩ = some (.int .i64 ml)) :
    Calls Tryz.prog 7 #[] w fun e w' => e = .returned (.bool true) ∧ Below w.heap.size w w' := by
  have HS := Lib.hid (s_sides w)
  have HT := Lib.hid htab
  have hml0 : 6 < w.heap.size := cell_lt' hml
  have htt0 : 0 < w.heap.size := cell_lt' (htt 1 (by omega) (by omega))
  have HML : Hid (∀ W, Below w.heap.size w W → W.cell? ⟨6, 0, none⟩ = some (.int .i64 ml)) := fun W hW => (hW.cell (p := ⟨6, 0, none⟩) hml0).trans hml
  have HTT : Hid (∀ W, Below w.heap.size w W → TyTab W) := fun W hW t h1 h2 => (hW.cell (p := ⟨0, t, none⟩) htt0).trans (htt t h1 h2)
  clear htab htt hml
  go_enter Tryz.func7, Tryz.ntmps7
  go_wp2_with fail
  refine HS.out.mono ?_
  rintro e w1 ⟨bd, bs, bo, rfl, hd, hs, ho, hb1⟩
  have HB1 := Lib.hid hb1
  have HD := Lib.hid hd
  have HSd := Lib.hid hs
  have HO := Lib.hid ho
  have KL := Lib.hid (lay_box w1 (some ⟨bs, 0, none⟩) (some ⟨bo, 0, none⟩) 2 2 2 2 1 0 1 1)
  clear HS hd hs ho hb1
  go_wp2_with fail
  have HBL : Hid (Below w1.heap.size w1 (w1.alloc (.cells #[.slice (some ⟨bs, 0, none⟩) 2 2, .slice (some ⟨bo, 0, none⟩) 2 2, .int .i64 1, .int .i64 0, .int .i64 1, .int .i64 1] 43))) := bel_new _ _
  have hzL : (w1.alloc (.cells #[.slice (some ⟨bs, 0, none⟩) 2 2, .slice (some ⟨bo, 0, none⟩) 2 2, .int .i64 1, .int .i64 0, .int .i64 1, .int .i64 1] 43)).heap.size = w1.heap.size + 1 := by simp
  generalize w1.alloc (.cells #[.slice (some ⟨bs, 0, none⟩) 2 2, .slice (some ⟨bo, 0, none⟩) 2 2, .int .i64 1, .int .i64 0, .int .i64 1, .int .i64 1] 43) = wL at *
  have HDW : Hid (∀ W, Below wL.heap.size wL W → DimsAt W (some ⟨bd, 0, none⟩) 2 nmS (pairZ (-2) 0) (pairZ 5 1073741825) ∧ IntsAt W (some ⟨bs, 0, none⟩) 2 (pairZ 4 3) ∧ IntsAt W (some ⟨bo, 0, none⟩) 2 (pairZ 1 0)) := fun W hW => ⟨HD.out.below (st HBL.out hW), HSd.out.below (st HBL.out hW), HO.out.below (st HBL.out hW)⟩
  have HBw : Hid (Below w.heap.size w wL) := st HB1.out HBL.out
  clear HD HSd HO HBL HB1
  have HCh : Hid (Calls Tryz.prog 21 #[.slice (some ⟨bd, 0, none⟩) 2 2, layS bs bo, .slice (some ⟨w1.heap.size + 1, 0, none⟩) 2 2] (wL.alloc (.cells #[.int .i64 1, .int .i64 7] 3)) fun e w' => ∃ b, e = .returned (.tuple #[.slice (some ⟨b, 0, none⟩) 2 2, .int .i64 0]) ∧ IntsAt w' (some ⟨b, 0, none⟩) 2 (chZ (pairZ (-2) 0) (pairZ 4 3) (pairZ 1 7)) ∧ Below wL.heap.size wL w') := by
    obtain ⟨a1, a2, a3⟩ := HDW.out _ (bel_new wL (.cells #[.int .i64 1, .int .i64 7] 3))
    refine (s_Chunk _ _ _ _ _ 2 2 2 2 2 2 2 2 nmS _ _ _ _ _ 1 0 1 1 a1 a2 a3 (two_new wL 1 7 _ hzL) (by omega) (by omega) (by omega) (by omega) at_ok).mono ?_
    rintro e w' ⟨b, rfl, _, h2, h3⟩
    exact ⟨b, rfl, ints_row h2, st (bel_new wL _) h3⟩
  refine HCh.out.mono ?_
  rintro e w2 ⟨bc, rfl, hc, hb2⟩
  have HC := Lib.hid hc
  obtain ⟨l0, l1, l2, l3, l4, l5⟩ := KL.out w2 hb2
  have HB2 := Lib.hid hb2
  clear HCh hc hb2
  have HHo : Hid (Calls Tryz.prog 22 #[.slice (some ⟨bd, 0, none⟩) 2 2, layS bs bo, .slice (some ⟨w2.heap.size, 0, none⟩) 2 2] (w2.alloc (.cells #[.int .i64 1, .int .i64 7] 3)) fun e w' => ∃ g cap, e = .returned (.tuple #[.slice (some ⟨g, 0, none⟩) 2 cap, .int .i64 0]) ∧ Below w2.heap.size w2 w') := by
    obtain ⟨a1, a2, a3⟩ := HDW.out _ (st HB2.out (bel_new w2 (.cells #[.int .i64 1, .int .i64 7] 3)))
    refine (s_Homes _ _ _ _ _ 2 2 2 2 2 2 2 2 nmS _ _ _ _ _ 1 0 1 1 a1 a2 a3 (two_new w2 1 7 _ rfl) (by omega) (by omega) (by omega) (by omega) at_ok).mono ?_
    rintro e w' ⟨v, B, zs, rfl, _, h2, _, h3⟩
    rw [home_two] at h2
    obtain ⟨g, cap, rfl⟩ := own_slice h2 (by omega)
    exact ⟨g, cap, rfl, st (bel_new w2 _) h3⟩
  go_wp2_with fail
  refine HHo.out.mono ?_
  rintro e w3 ⟨gh, ch, rfl, hb3⟩
  have HC3 : Hid (IntsAt w3 (some ⟨bc, 0, none⟩) 2 (chZ (pairZ (-2) 0) (pairZ 4 3) (pairZ 1 7))) := HC.out.below hb3
  clear l0 l1 l2 l3 l4 l5
  obtain ⟨l0, l1, l2, l3, l4, l5⟩ := KL.out w3 (st HB2.out hb3)
  have HB3 : Hid (Below wL.heap.size wL w3) := st HB2.out hb3
  clear HHo hb3 HC HB2
  have HWi : Hid (Calls Tryz.prog 23 #[.slice (some ⟨bd, 0, none⟩) 2 2, layS bs bo, .slice (some ⟨w3.heap.size, 0, none⟩) 2 2] (w3.alloc (.cells #[.int .i64 0, .int .i64 2] 3)) fun e w' => ∃ b b2, e = .returned (.tuple #[BoxV (some ⟨b, 0, none⟩) (some ⟨b2, 0, none⟩) 2 2 2 2, .int .i64 0]) ∧ IntsAt w' (some ⟨b, 0, none⟩) 2 (wideLo (pairZ (-2) 0) (pairZ 4 3) (pairZ 1 0) (pairZ 0 2)) ∧ IntsAt w' (some ⟨b2, 0, none⟩) 2 (wideHi (pairZ (-2) 0) (pairZ 5 1073741825) (pairZ 4 3) (pairZ 1 0) (pairZ 0 2)) ∧ Below w3.heap.size w3 w') := by
    obtain ⟨a1, a2, a3⟩ := HDW.out _ (st HB3.out (bel_new w3 (.cells #[.int .i64 0, .int .i64 2] 3)))
    refine (s_Wide _ _ _ _ _ 2 2 2 2 2 2 2 2 nmS _ _ _ _ _ 1 0 1 1 a1 a2 a3 (two_new w3 0 2 _ rfl) (by omega) (by omega) (by omega) (by omega) core_ok).mono ?_
    rintro e w' ⟨b, b2, rfl, _, _, _, h2, h3, h4⟩
    exact ⟨b, b2, rfl, ints_row h2, ints_row h3, st (bel_new w3 _) h4⟩
  go_wp2_with fail
  refine HWi.out.mono ?_
  rintro e w4 ⟨b1, b2, rfl, hv1, hv2, hb4⟩
  have HC4 : Hid (IntsAt w4 (some ⟨bc, 0, none⟩) 2 (chZ (pairZ (-2) 0) (pairZ 4 3) (pairZ 1 7))) := HC3.out.below hb4
  have HB4 : Hid (Below wL.heap.size wL w4) := st HB3.out hb4
  have HV1 := Lib.hid hv1
  have HV2 := Lib.hid hv2
  have KX := Lib.hid (box_two w4 (.slice (some ⟨b1, 0, none⟩) 2 2) (.slice (some ⟨b2, 0, none⟩) 2 2) 45)
  clear HWi hb4 HC3 HB3 l0 l1 l2 l3 l4 l5 hv1 hv2
  go_wp2_with fail
  have hbX := bel_new w4 (.cells #[.slice (some ⟨b1, 0, none⟩) 2 2, .slice (some ⟨b2, 0, none⟩) 2 2] 45)
  have hzX : (w4.alloc (.cells #[.slice (some ⟨b1, 0, none⟩) 2 2, .slice (some ⟨b2, 0, none⟩) 2 2] 45)).heap.size = w4.heap.size + 1 := by simp
  generalize w4.alloc (.cells #[.slice (some ⟨b1, 0, none⟩) 2 2, .slice (some ⟨b2, 0, none⟩) 2 2] 45) = wX at *
  have HSI : Hid (Calls Tryz.prog 24 #[.slice (some ⟨bc, 0, none⟩) 2 2, .slice (some ⟨w4.heap.size + 1, 0, none⟩) 2 2] (wX.alloc (.cells #[.int .i64 0, .int .i64 2] 3)) fun e w' => e = .returned (.bool true) ∧ Below wX.heap.size wX w') := by
    refine (s_SameInts _ _ _ 2 2 2 2 _ _ (HC4.out.below (st hbX (bel_new wX _))) (two_new wX 0 2 _ hzX) (by omega) (by omega)).mono ?_
    rintro e w' ⟨rfl, h⟩
    refine ⟨?_, st (bel_new wX _) h⟩
    have e1 : sameZ 2 2 (chZ (pairZ (-2) 0) (pairZ 4 3) (pairZ 1 7)) (pairZ 0 2) = true := by kernel_rfl
    rw [e1]
  refine HSI.out.mono ?_
  rintro e w5 ⟨rfl, hb5⟩
  have HB5 : Hid (Below wL.heap.size wL w5) := st (st HB4.out hbX) hb5
  obtain ⟨m0, m1⟩ := KX.out w5 hb5
  have HSB : Hid (Calls Tryz.prog 25 #[BoxW (some ⟨b1, 0, none⟩) (some ⟨b2, 0, none⟩) 2 2 2 2, BoxW (some ⟨w5.heap.size, 0, none⟩) (some ⟨w5.heap.size + 1, 0, none⟩) 2 2 2 2] ((w5.alloc (.cells #[.int .i64 (-2), .int .i64 6] 3)).alloc (.cells #[.int .i64 2, .int .i64 8] 3)) fun e w' => e = .returned (.bool true) ∧ Below w5.heap.size w5 w') := by
    have hbb : Below w5.heap.size w5 ((w5.alloc (.cells #[.int .i64 (-2), .int .i64 6] 3)).alloc (.cells #[.int .i64 2, .int .i64 8] 3)) := st (bel_new _ _) (bel_new _ _)
    refine (s_SameBox _ _ _ _ _ 2 2 2 2 2 2 2 2 _ _ _ _ (HV1.out.below (st (st hbX hb5) hbb)) (HV2.out.below (st (st hbX hb5) hbb)) ((two_new w5 (-2) 6 _ rfl).below (bel_new _ _)) (two_new _ 2 8 _ (by simp)) (by omega) (by omega) (by omega) (by omega)).mono ?_
    rintro e w' ⟨rfl, h⟩
    refine ⟨?_, st hbb h⟩
    have e1 : (sameZ 2 2 (wideLo (pairZ (-2) 0) (pairZ 4 3) (pairZ 1 0) (pairZ 0 2)) (pairZ (-2) 6) && sameZ 2 2 (wideHi (pairZ (-2) 0) (pairZ 5 1073741825) (pairZ 4 3) (pairZ 1 0) (pairZ 0 2)) (pairZ 2 8)) = true := by kernel_rfl
    rw [e1]
  clear HSI HC4 HV1 HV2 KX hbX hb5
  go_wp2_with fail
  refine HSB.out.mono ?_
  rintro e w6 ⟨rfl, hb6⟩
  have HB6 : Hid (Below wL.heap.size wL w6) := st HB5.out hb6
  clear HSB hb6 HB5 m0 m1
  have HSq : Hid (Calls Tryz.prog 14 #[LayV none 0 0 none 0 0 2 0 0 0, BoxW (some ⟨w6.heap.size, 0, none⟩) (some ⟨w6.heap.size + 1, 0, none⟩) 2 2 2 2] ((w6.alloc (.cells #[.int .i64 0, .int .i64 0] 3)).alloc (.cells #[.int .i64 2, .int .i64 1] 3)) fun e w' => ∃ b, e = .returned (.tuple #[.slice (some ⟨b, 0, none⟩) 6 6, .int .i64 0]) ∧ ListsAt w' (some ⟨b, 0, none⟩) 6 (fun _ => 2) (fun t k => crdZ (pairZ 0 0) eS 2 ((pairR (hilK 2 (wdTo (pairZ 0 0) (pairZ 2 1) 2) (pairZ 0 0) eS) 6)[t]!).2 k) ∧ Below w6.heap.size w6 w') := by
    have hbb : Below w6.heap.size w6 ((w6.alloc (.cells #[.int .i64 0, .int .i64 0] 3)).alloc (.cells #[.int .i64 2, .int .i64 1] 3)) := st (bel_new _ _) (bel_new _ _)
    refine (s_SeqEx _ _ _ ((two_new w6 0 0 _ rfl).below (bel_new _ _)) (two_new _ 2 1 _ (by simp))).mono ?_
    rintro e w' ⟨b, rfl, h1, h2⟩
    exact ⟨b, rfl, h1, st hbb h2⟩
  go_wp2_with fail
  refine HSq.out.mono ?_
  rintro e w7 ⟨bq, rfl, hq, hb7⟩
  have HQ := Lib.hid hq
  have HB7 : Hid (Below wL.heap.size wL w7) := st HB6.out hb7
  clear HSq hq hb7 HB6
  go_wp2_with fail
  have HSm : Hid (Calls Tryz.prog 18 #[.slice (some ⟨bq, 0, none⟩) 6 6, .slice (some ⟨w7.heap.size + 1 + 1 + 1 + 1 + 1 + 1, 0, none⟩) 6 6] (((((((w7.alloc (.cells #[.int .i64 0, .int .i64 0] 3)).alloc (.cells #[.int .i64 1, .int .i64 0] 3)).alloc (.cells #[.int .i64 1, .int .i64 1] 3)).alloc (.cells #[.int .i64 0, .int .i64 1] 3)).alloc (.cells #[.int .i64 2, .int .i64 1] 3)).alloc (.cells #[.int .i64 2, .int .i64 0] 3)).alloc (.cells #[.slice (some ⟨w7.heap.size, 0, none⟩) 2 2, .slice (some ⟨w7.heap.size + 1, 0, none⟩) 2 2, .slice (some ⟨w7.heap.size + 1 + 1, 0, none⟩) 2 2, .slice (some ⟨w7.heap.size + 1 + 1 + 1, 0, none⟩) 2 2, .slice (some ⟨w7.heap.size + 1 + 1 + 1 + 1, 0, none⟩) 2 2, .slice (some ⟨w7.heap.size + 1 + 1 + 1 + 1 + 1, 0, none⟩) 2 2] 35)) fun e w' => e = .returned (.bool true) ∧ Below w7.heap.size w7 w') := by
    obtain ⟨h1, h2⟩ := lists_six w7
    refine (s_same _ _ _ 6 6 6 6 _ _ _ _ (HQ.out.below h2) h1 (by omega) (by omega)).mono ?_
    rintro e w' ⟨rfl, h⟩
    refine ⟨?_, st h2 h⟩
    rw [seq_same]
  refine HSm.out.mono ?_
  rintro e w8 ⟨rfl, hb8⟩
  have HB8 : Hid (Below w.heap.size w w8) := st HBw.out (st HB7.out hb8)
  clear HSm hb8 HB7 HQ HDW KL HBw
  have HAr := Lib.hid (s_Array w8)
  go_wp2_with fail
  refine HAr.out.mono ?_
  rintro e w9 ⟨ad, aa, ac, rfl, hd, ha, hc, hb9⟩
  have HB9 : Hid (Below w.heap.size w w9) := st HB8.out hb9
  have HPr := Lib.hid (s_Print w9 (some ⟨ad, 0, none⟩) (some ⟨aa, 0, none⟩) (some ⟨ac, 0, none⟩) 2 2 1 1 4 4 nmS (pairZ 0 0) (pairZ 3 1) (fun _ => ⟨#[118]⟩) (fun _ => 2) (fun _ => 2) (fun _ => 1) xS vkS vnS vdS vsS ml hd ha hc (by omega) (by omega) (by omega) (HT.out.below HB9.out) (HTT.out w9 HB9.out) (HML.out w9 HB9.out)
    (two (by decide) (by decide)) (fun k hk => ⟨by decide, by omega, by omega⟩) ex_cells check_ok)
  rw [text_ok] at HPr
  clear HAr hd ha hc hb9
  go_wp2_with fail
  refine HPr.out.mono ?_
  rintro e w10 ⟨rfl, hb10⟩
  have HB10 : Hid (Below w.heap.size w w10) := st HB9.out hb10
  clear HPr hb10 HB9
  have HAr := Lib.hid (s_Array w10)
  go_wp2_with fail
  refine HAr.out.mono ?_
  rintro e w11 ⟨ad, aa, ac, rfl, hd, ha, hc, hb11⟩
  have HB11 : Hid (Below w.heap.size w w11) := st HB10.out hb11
  have HCk := Lib.hid (s_Check w11 (some ⟨ad, 0, none⟩) (some ⟨aa, 0, none⟩) (some ⟨ac, 0, none⟩) 2 2 1 1 4 4 nmS (pairZ 0 0) (pairZ 3 1) (fun _ => ⟨#[118]⟩) (fun _ => 2) (fun _ => 2) (fun _ => 1) xS vkS vnS vdS vsS hd ha hc (by omega) (by omega) (by omega))
  rw [check_ok] at HCk
  clear HAr hd ha hc hb11
  go_wp2_with fail
  refine HCk.out.mono ?_
  rintro e w12 ⟨rfl, hb12⟩
  go_wp2
  go_ret
  exact ⟨rfl, st HB11.out hb12⟩
end Go.Proofs.YtogmbehomilalaaGreatDoor
end
