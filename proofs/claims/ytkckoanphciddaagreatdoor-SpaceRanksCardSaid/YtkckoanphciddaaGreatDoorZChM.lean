/- The box of a cube. -/
import Derived.Test.YtkckoanphciddaaGreatDoorZOpC
import Derived.Test.YtkckoanphciddaaGreatDoorZRgK
import Derived.Test.YtkckoanphciddaaGreatDoorZOpX
import Derived.Test.YtkckoanphciddaaGreatDoorZSpJ
import Derived.Test.YtkckoanphciddaaGreatDoorZCmpS

/- The box of a cube. -/
section
namespace Go.Proofs.YtkckoanphciddaaGreatDoor
open Go Go.RowKit Go.Deep

section
variable {ops : Array Oper} {Q : Exit → Act → World → Prop} {K : Act → World → Prop} {a : Act} {w : World}
set_option maxRecDepth 100000 in
theorem op_fC {o : Oper} {d t b f : Nat} (hf : f < 2) (ho : o.op = .fieldAddr 79 (.tmp t) f) (hd : o.dst = some d) (hs : slot a t = .pointer (some ⟨b, 0, none⟩)) (h : K (putSlot a d (.pointer (some ⟨b, f, none⟩))) w) : o.wp Tryz.prog a w K Q := by
  obtain ⟨op, dst, ty, pos, after, guard⟩ := o
  dsimp only at ho hd
  subst ho hd
  have hs' : a.tmps[t]?.getD undef = .pointer (some ⟨b, 0, none⟩) := hs
  unfold Oper.wp
  rcases (by omega : f = 0 ∨ f = 1) with rfl | rfl <;> (go_simp; exact h)
set_option maxRecDepth 100000 in
theorem op_ls8 {o : Oper} {d t b : Nat} {p : Option Addr} {n c : Nat} (ho : o.op = .load 76 (.tmp t)) (hd : o.dst = some d) (hs : slot a t = .pointer (some ⟨b, 0, none⟩)) (hc : w.cell? ⟨b, 0, none⟩ = some (.slice p n c)) (h : K (putSlot a d (.slice p n c)) w) : o.wp Tryz.prog a w K Q := by
  obtain ⟨op, dst, ty, pos, after, guard⟩ := o
  dsimp only at ho hd
  subst ho hd
  have hs' : a.tmps[t]?.getD undef = .pointer (some ⟨b, 0, none⟩) := hs
  unfold Oper.wp
  go_simp
  exact h
set_option maxRecDepth 100000 in
theorem op_ix8 {o : Oper} {d t i b off n c k : Nat} (ho : o.op = .indexAddr 76 (.tmp t) (.tmp i)) (hd : o.dst = some d) (hs : slot a t = .slice (some ⟨b, off, none⟩) n c) (hi : slot a i = .int .i64 (k : Int)) (hk : k < n) (h : K (putSlot a d (.pointer (some ⟨b, off + k, none⟩))) w) : o.wp Tryz.prog a w K Q := by
  obtain ⟨op, dst, ty, pos, after, guard⟩ := o
  dsimp only at ho hd
  subst ho hd
  have hs' : a.tmps[t]?.getD undef = .slice (some ⟨b, off, none⟩) n c := hs
  have hi' : a.tmps[i]?.getD undef = .int .i64 (k : Int) := hi
  have h0 : (0 : Int) ≤ (k : Int) := by omega
  have h1 : (k : Int) < (n : Int) := by omega
  unfold Oper.wp
  go_simp
  exact h
set_option maxRecDepth 100000 in
theorem op_ld8 {o : Oper} {d t b off : Nat} {x : Int} (ho : o.op = .load 139 (.tmp t)) (hd : o.dst = some d) (hs : slot a t = .pointer (some ⟨b, off, none⟩)) (hc : w.cell? ⟨b, off, none⟩ = some (.int .i8 x)) (h : K (putSlot a d (.int .i8 x)) w) : o.wp Tryz.prog a w K Q := by
  obtain ⟨op, dst, ty, pos, after, guard⟩ := o
  dsimp only at ho hd
  subst ho hd
  have hs' : a.tmps[t]?.getD undef = .pointer (some ⟨b, off, none⟩) := hs
  unfold Oper.wp
  go_simp
  exact h
set_option maxRecDepth 100000 in
theorem op_cv8 {o : Oper} {d t : Nat} {x : Int} (ho : o.op = .convert 139 3 (.tmp t)) (hd : o.dst = some d) (hs : slot a t = .int .i8 x) (hx : -128 ≤ x ∧ x ≤ 127) (h : K (putSlot a d (.int .i64 x)) w) : o.wp Tryz.prog a w K Q := by
  obtain ⟨op, dst, ty, pos, after, guard⟩ := o
  dsimp only at ho hd
  subst ho hd
  have hs' : a.tmps[t]?.getD undef = .int .i8 x := hs
  have hw : IntKind.i64.wrap x = x := w64 (by omega) (by omega)
  unfold Oper.wp
  go_simp
  exact h
set_option maxRecDepth 100000 in
theorem op_ixU {o : Oper} {d t i b k : Nat} (ho : o.op = .indexAddr 77 (.tmp t) (.tmp i)) (hd : o.dst = some d) (hs : slot a t = .pointer (some ⟨b, 1, none⟩)) (hi : slot a i = .int .i64 (k : Int)) (hk : k < 4) (h : K (putSlot a d (.pointer (some ⟨b, 1 + k, none⟩))) w) : o.wp Tryz.prog a w K Q := by
  obtain ⟨op, dst, ty, pos, after, guard⟩ := o
  dsimp only at ho hd
  subst ho hd
  have hs' : a.tmps[t]?.getD undef = .pointer (some ⟨b, 1, none⟩) := hs
  have hi' : a.tmps[i]?.getD undef = .int .i64 (k : Int) := hi
  have h0 : (0 : Int) ≤ (k : Int) := by omega
  have h1 : (k : Int) < 4 := by omega
  unfold Oper.wp
  go_simp
  exact h
set_option maxRecDepth 100000 in
theorem op_ldU {o : Oper} {d t b off : Nat} {x : Int} (ho : o.op = .load 5 (.tmp t)) (hd : o.dst = some d) (hs : slot a t = .pointer (some ⟨b, off, none⟩)) (hc : w.cell? ⟨b, off, none⟩ = some (.int .u8 x)) (h : K (putSlot a d (.int .u8 x)) w) : o.wp Tryz.prog a w K Q := by
  obtain ⟨op, dst, ty, pos, after, guard⟩ := o
  dsimp only at ho hd
  subst ho hd
  have hs' : a.tmps[t]?.getD undef = .pointer (some ⟨b, off, none⟩) := hs
  unfold Oper.wp
  go_simp
  exact h
set_option maxRecDepth 100000 in
theorem op_re9 {o : Oper} {d t : Nat} {x : Int} (ho : o.op = .binOp .rem 5 (.tmp t) (.const (.int .u8 9)) 5) (hd : o.dst = some d) (hs : slot a t = .int .u8 x) (hx : 0 ≤ x ∧ x ≤ 255) (h : K (putSlot a d (.int .u8 (x % 9))) w) : o.wp Tryz.prog a w K Q := by
  obtain ⟨op, dst, ty, pos, after, guard⟩ := o
  dsimp only at ho hd
  subst ho hd
  have hs' : a.tmps[t]?.getD undef = .int .u8 x := hs
  have hw : x.tmod 9 = x % 9 := Int.tmod_eq_emod_of_nonneg hx.1
  unfold Oper.wp
  go_simp
  exact h
set_option maxRecDepth 100000 in
theorem op_cvU {o : Oper} {d t : Nat} {x : Int} (ho : o.op = .convert 5 3 (.tmp t)) (hd : o.dst = some d) (hs : slot a t = .int .u8 x) (hx : 0 ≤ x ∧ x ≤ 255) (h : K (putSlot a d (.int .i64 x)) w) : o.wp Tryz.prog a w K Q := by
  obtain ⟨op, dst, ty, pos, after, guard⟩ := o
  dsimp only at ho hd
  subst ho hd
  have hs' : a.tmps[t]?.getD undef = .int .u8 x := hs
  have hw : IntKind.i64.wrap x = x := w64 (by omega) (by omega)
  unfold Oper.wp
  go_simp
  exact h
set_option maxRecDepth 100000 in
theorem op_ad {o : Oper} {d t t2 : Nat} {x y : Int} (ho : o.op = .binOp .add 3 (.tmp t) (.tmp t2) 3) (hd : o.dst = some d) (hs : slot a t = .int .i64 x) (hs2 : slot a t2 = .int .i64 y) (hx : -128 ≤ x ∧ x ≤ 127) (hy : 0 ≤ y ∧ y ≤ 255) (h : K (putSlot a d (.int .i64 (x + y))) w) : o.wp Tryz.prog a w K Q := by
  obtain ⟨op, dst, ty, pos, after, guard⟩ := o
  dsimp only at ho hd
  subst ho hd
  have hs' : a.tmps[t]?.getD undef = .int .i64 x := hs
  have hs2' : a.tmps[t2]?.getD undef = .int .i64 y := hs2
  have hw : IntKind.i64.wrap (x + y) = x + y := w64 (by omega) (by omega)
  unfold Oper.wp
  go_simp
  exact h
end
theorem side_at {W : World} {b n c : Nat} {A : Option Addr} {sd : Nat → Int} (h : W.heap[b]? = some (.cells #[.slice A n c, .int .u8 (sd 0), .int .u8 (sd 1), .int .u8 (sd 2), .int .u8 (sd 3)] 79 (0, 0))) : W.cell? ⟨b, 0, none⟩ = some (.slice A n c) ∧ ∀ k, k < 4 → W.cell? ⟨b, 1 + k, none⟩ = some (.int .u8 (sd k)) := by
  refine ⟨by rw [cell_of_row _ _ _ _ _ _ h]; rfl, fun k hk => ?_⟩
  rw [cell_of_row _ _ _ _ _ _ h]
  rcases (by omega : k = 0 ∨ k = 1 ∨ k = 2 ∨ k = 3) with rfl | rfl | rfl | rfl <;> rfl
set_option maxRecDepth 100000 in
set_option maxHeartbeats 8000000 in
theorem l_box (w : World) (A : Option Addr) (n c : Nat) (xs sd : Nat → Int) (hA : I8At w A n xs) (hx : ∀ k, k < n → -128 ≤ xs k ∧ xs k ≤ 127) (hs : ∀ k, 0 ≤ sd k ∧ sd k ≤ 255) :
    Calls Tryz.prog 38 #[CubeV A n c sd] w fun e w' => ∃ P Q m cp cq, e = .returned (BoxW P Q m cp m cq) ∧ m = min n 4 ∧ IntsAt w' P m xs ∧ IntsAt w' Q m (fun k => xs k + sd k % 9) ∧ Below w.heap.size w w' := by
  have HX := Lib.hid hx
  have HS := Lib.hid hs
  have HI := Lib.hid hA
  have hR := heap_alloc_new w (.cells #[.slice A n c, .int .u8 (sd 0), .int .u8 (sd 1), .int .u8 (sd 2), .int .u8 (sd 3)] 79)
  have hB0 : Below w.heap.size w (w.alloc (.cells #[.slice A n c, .int .u8 (sd 0), .int .u8 (sd 1), .int .u8 (sd 2), .int .u8 (sd 3)] 79)) := (Below.refl _ _).alloc (Nat.le_refl _) _
  have hz0 : (w.alloc (.cells #[.slice A n c, .int .u8 (sd 0), .int .u8 (sd 1), .int .u8 (sd 2), .int .u8 (sd 3)] 79)).heap.size = w.heap.size + 1 := by simp
  clear hx hs hA
  go_enter Tryz.func38, Tryz.ntmps38
  go_wp2_with fail
  generalize w.alloc (.cells #[.slice A n c, .int .u8 (sd 0), .int .u8 (sd 1), .int .u8 (sd 2), .int .u8 (sd 3)] 79) = Wq at *
  have HB2 : Hid (Below w.heap.size w ((Wq.alloc (.cells #[.slice none 0 0, .slice none 0 0] 66)).alloc (.cells #[.slice none 0 0, .slice none 0 0] 66))) := (hB0.alloc (by omega) _).alloc (by simp; omega) _
  have HCq : Hid (((Wq.alloc (.cells #[.slice none 0 0, .slice none 0 0] 66)).alloc (.cells #[.slice none 0 0, .slice none 0 0] 66)).heap[w.heap.size]? = some (.cells #[.slice A n c, .int .u8 (sd 0), .int .u8 (sd 1), .int .u8 (sd 2), .int .u8 (sd 3)] 79 (0, 0))) := (Below.heap_alloc _ _ _ (by simp; omega)).trans ((Below.heap_alloc _ _ _ (by omega)).trans hR)
  have HRq : Hid (((Wq.alloc (.cells #[.slice none 0 0, .slice none 0 0] 66)).alloc (.cells #[.slice none 0 0, .slice none 0 0] 66)).heap[w.heap.size + 1]? = some (.cells #[.slice none 0 0, .slice none 0 0] 66 (0, 0))) := (Below.heap_alloc _ _ _ (by simp; omega)).trans (by rw [← hz0]; exact heap_alloc_new _ _)
  have HNq : Hid (((Wq.alloc (.cells #[.slice none 0 0, .slice none 0 0] 66)).alloc (.cells #[.slice none 0 0, .slice none 0 0] 66)).heap[w.heap.size + 2]? = some (.cells #[.slice none 0 0, .slice none 0 0] 66 (0, 0))) := by
    have := heap_alloc_new (Wq.alloc (.cells #[.slice none 0 0, .slice none 0 0] 66)) (.cells #[.slice none 0 0, .slice none 0 0] 66)
    rw [World.size_alloc, hz0] at this
    exact this
  clear hB0 hR hz0
  generalize (Wq.alloc (.cells #[.slice none 0 0, .slice none 0 0] 66)).alloc (.cells #[.slice none 0 0, .slice none 0 0] 66) = W0 at *
  go_loopw [4] (fun i wr => ∃ (k : Nat) (x1 x2 : Value), k ≤ min n 4 ∧ i = .int .i64 k ∧ Hid (InS2 (w.heap.size + 2) wr x1 x2 k k xs (fun k => xs k + sd k % 9)) ∧ Hid (wr.heap[w.heap.size + 1]? = some (.cells #[.slice none 0 0, .slice none 0 0] 66 (0, 0))) ∧ Hid (wr.heap[w.heap.size]? = some (.cells #[.slice A n c, .int .u8 (sd 0), .int .u8 (sd 1), .int .u8 (sd 2), .int .u8 (sd 3)] 79 (0, 0))) ∧ Hid (Below w.heap.size w wr)) (fun i _ => min n 4 - (intOf i).toNat)
  case atStart => exact ⟨0, _, _, Nat.zero_le _, rfl, ⟨HNq.out, OwnI.nil _ _ _, OwnI.nil _ _ _, .inl rfl⟩, HRq.out, HCq.out, HB2.out⟩
  case round =>
    obtain ⟨k, x1, x2, hk, rfl, HIn1, HRe, HCu, HBr⟩ := hrel
    have hobr : w.heap.size + 2 < wr.heap.size := (Array.getElem?_eq_some_iff.1 HIn1.out.1).1
    have m0 := (side_at HCu.out).1
    by_cases hl4 : k < n ∧ k < 4
    · obtain ⟨hlt, hk4⟩ := hl4
      obtain ⟨ba, oa, rfl, hba, hca⟩ := HI.out (by omega)
      have HKx : Hid (∀ W, Below w.heap.size w W → W.cell? ⟨ba, oa + k, none⟩ = some (.int .i8 (xs k))) := fun W hW => (hW.cell (p := ⟨ba, oa + k, none⟩) hba).trans (hca k hlt)
      have HKq1 : Hid (∀ W, Below wr.heap.size wr W → W.heap[w.heap.size + 2]? = some (.cells #[x1, x2] 66 (0, 0)) ∧ W.cell? ⟨w.heap.size, 0, none⟩ = some (.slice (some ⟨ba, oa, none⟩) n c) ∧ W.cell? ⟨ba, oa + k, none⟩ = some (.int .i8 (xs k)) ∧ ∀ k, k < 4 → W.cell? ⟨w.heap.size, 1 + k, none⟩ = some (.int .u8 (sd k))) := fun W hW => by
        have g := side_at ((hW.block _ (by omega)).trans HCu.out)
        exact ⟨(hW.block _ hobr).trans HIn1.out.1, g.1, HKx.out W (st HBr.out hW), g.2⟩
      have hkn : (k : Int) < (n : Int) := by omega
      have hk4' : (k : Int) < 4 := by omega
      clear hca
      go_wp2_with fail
      clear m0
      rename_i K1 hK1
      refine wp_region_TK (n1 := 9) (T := TL [isW (.pointer (some ⟨w.heap.size + 2, 0, none⟩)), isW x1, isW (.pointer (some ⟨w.heap.size, 0, none⟩)), isW (.slice (some ⟨ba, oa, none⟩) n c), isW (.int .i64 k), isW (.pointer (some ⟨ba, oa + k, none⟩)), isW (.int .i8 (xs k)), isW (.int .i64 (xs k)), OneI (xs k) wr.heap.size]) (by kernel_rfl) (by decide) (by kernel_rfl) (by kernel_rfl) ?step ?tail
      case step =>
        intro listed a W i HL hi9 hilt
        have dl := HL.dl (l := [some 16, some 17, some 18, some 19, some 20, some 21, some 22, some 23, some 24, some 25, some 26, none]) rfl
        have ap := apart_of dl (by decide)
        obtain ⟨q1, q2, q3, q4⟩ := HKq1.out W HL.below
        have hBW := HL.below.size
        have mono : ∀ p' ∈ [isW (.pointer (some ⟨w.heap.size + 2, 0, none⟩)), isW x1, isW (.pointer (some ⟨w.heap.size, 0, none⟩)), isW (.slice (some ⟨ba, oa, none⟩) n c), isW (.int .i64 k), isW (.pointer (some ⟨ba, oa + k, none⟩)), isW (.int .i8 (xs k)), isW (.int .i64 (xs k)), OneI (xs k) wr.heap.size], Mono p' := by
          intro p' hp
          simp only [List.mem_cons, List.not_mem_nil, or_false] at hp
          rcases hp with rfl | rfl | rfl | rfl | rfl | rfl | rfl | rfl | rfl
          · exact isW_mono _
          · exact isW_mono _
          · exact isW_mono _
          · exact isW_mono _
          · exact isW_mono _
          · exact isW_mono _
          · exact isW_mono _
          · exact isW_mono _
          · exact oneI_mono _ _
        rcases (by omega : i = 0 ∨ i = 1 ∨ i = 2 ∨ i = 3 ∨ i = 4 ∨ i = 5 ∨ i = 6 ∨ i = 7 ∨ i = 8) with rfl | rfl | rfl | rfl | rfl | rfl | rfl | rfl | rfl
        · exact wpOp_of rfl (.inl rfl) (op_fB (by decide) rfl rfl (HL.old 3 (old_of' dl 3 (by decide))) (HL.over mono ap rfl rfl (by simp) (Below.refl _ _) rfl))
        · exact wpOp_of rfl (.inl rfl) (op_lsl (.inl rfl) rfl rfl (HL.got' hi9 (j := 0) (t := 16) rfl (by kernel_rfl) rfl rfl) (box_gen q1).1 (HL.over mono ap rfl rfl (by simp) (Below.refl _ _) rfl))
        · exact wpOp_of rfl (.inl rfl) (op_fC (by decide) rfl rfl (HL.old 1 (old_of' dl 1 (by decide))) (HL.over mono ap rfl rfl (by simp) (Below.refl _ _) rfl))
        · exact wpOp_of rfl (.inl rfl) (op_ls8 rfl rfl (HL.got' hi9 (j := 2) (t := 18) rfl (by kernel_rfl) rfl rfl) q2 (HL.over mono ap rfl rfl (by simp) (Below.refl _ _) rfl))
        · exact wpOp_of rfl (.inl rfl) (op_mv rfl rfl (HL.over mono ap rfl rfl (by simp) (Below.refl _ _) (HL.old 4 (old_of' dl 4 (by decide)))))
        · exact wpOp_of rfl (.inl rfl) (op_ix8 rfl rfl (HL.got' hi9 (j := 3) (t := 19) rfl (by kernel_rfl) rfl rfl) (HL.got' hi9 (j := 4) (t := 20) rfl (by kernel_rfl) rfl rfl) hlt (HL.over mono ap rfl rfl (by simp) (Below.refl _ _) rfl))
        · exact wpOp_of rfl (.inl rfl) (op_ld8 rfl rfl (HL.got' hi9 (j := 5) (t := 21) rfl (by kernel_rfl) rfl rfl) q3 (HL.over mono ap rfl rfl (by simp) (Below.refl _ _) rfl))
        · exact wpOp_of rfl (.inl rfl) (op_cv8 rfl rfl (HL.got' hi9 (j := 6) (t := 22) rfl (by kernel_rfl) rfl rfl) (HX.out k hlt) (HL.over mono ap rfl rfl (by simp) (Below.refl _ _) rfl))
        · exact wpOp_of rfl (.inl rfl) (op_bsI rfl rfl (HL.got' hi9 (j := 7) (t := 23) rfl (by kernel_rfl) rfl rfl) (HL.over mono ap rfl rfl (by simp) (bel_nw W _) ⟨_, rfl, hBW, heap_alloc_new W _⟩))
      case tail =>
        intro listed a W HL hall
        have e1 := HL.got 1 _ 17 rfl rfl (hall 1 (by decide))
        obtain ⟨b, e2, f1, f2⟩ := HL.got 8 _ 24 rfl rfl (hall 8 (by decide))
        have dl := HL.dl (l := [some 16, some 17, some 18, some 19, some 20, some 21, some 22, some 23, some 24, some 25, some 26, none]) rfl
        have s0 := HL.old 0 (old_of' dl 0 (by decide))
        have s1 := HL.old 1 (old_of' dl 1 (by decide))
        have s2 := HL.old 2 (old_of' dl 2 (by decide))
        have s3 := HL.old 3 (old_of' dl 3 (by decide))
        have s4 := HL.old 4 (old_of' dl 4 (by decide))
        have s45 := HL.old 45 (old_of' dl 45 (by decide))
        obtain ⟨f, hf, rfl⟩ := actlitf 46 a (HL.frame.trans (by simp)) (HL.defers.trans rfl)
        rw [show List.range 46 = [0, 1, 2, 3, 4, 5, 6, 7, 8, 9, 10, 11, 12, 13, 14, 15, 16, 17, 18, 19, 20, 21, 22, 23, 24, 25, 26, 27, 28, 29, 30, 31, 32, 33, 34, 35, 36, 37, 38, 39, 40, 41, 42, 43, 44, 45] from rfl]
        simp only [List.map_cons, List.map_nil]
        have q0 : f 0 = CubeV (some ⟨ba, oa, none⟩) n c sd := (hf 0).symm.trans s0
        have q1 : f 1 = .pointer (some ⟨w.heap.size, 0, none⟩) := (hf 1).symm.trans s1
        have q2 : f 2 = .pointer (some ⟨w.heap.size + 1, 0, none⟩) := (hf 2).symm.trans s2
        have q3 : f 3 = .pointer (some ⟨w.heap.size + 1 + 1, 0, none⟩) := (hf 3).symm.trans s3
        have q4 : f 4 = .int .i64 k := (hf 4).symm.trans s4
        have q45 : f 45 = undef := (hf 45).symm.trans s45
        have q17 : f 17 = x1 := (hf 17).symm.trans e1
        have q24 : f 24 = .slice (some ⟨b, 0, none⟩) 1 1 := (hf 24).symm.trans e2
        rw [q0, q1, q2, q3, q4, q45, q17, q24]
        have hb0 := HL.below
        have hin := HIn1.out.below hb0
        clear e1 e2 s0 s1 s2 s3 s4 s45 q0 q1 q2 q3 q4 q45 q17 q24 hf dl hall HL
        refine wpList_appJ rfl (.tmp 17) (.tmp 24) rfl W (xs k) (w.heap.size + 3) x1 k xs rfl b rfl f2 hin.2.1 (by omega) (by have := (Array.getElem?_eq_some_iff.1 hin.1).1; omega) ?_
        intro v' w2 hown hgr hat
        obtain ⟨hbx, hin2, hBo⟩ := hin.app1 hown hgr hat
        obtain ⟨A', cp', rfl, -⟩ := hown.ints
        have HIn2 := Lib.hid hin2
        have HBo2 : Hid (Below (w.heap.size + 2) wr _) := (hb0.mono (by omega)).trans hBo
        obtain ⟨t0, t1, u0, u1⟩ := box_gen hbx
        clear hin hin2 hbx hgr hat hown f1 f2 hb0 hBo
        go_wp2_with fail
        clear t0 t1 u0 u1
        have HIn2' : Hid (InS2 (w.heap.size + 2) (w2.setCell ⟨w.heap.size + 2, 0, none⟩ (.slice A' (k + 1) cp')) (.slice A' (k + 1) cp') x2 (k + 1) k xs (fun k => xs k + sd k % 9)) := ⟨HIn2.out.1, HIn2.out.2.1.congr fun j _ => (by unfold updZ; split <;> simp [*]), HIn2.out.2.2.1, HIn2.out.2.2.2⟩
        have HB3 : Hid (Below w.heap.size w (w2.setCell ⟨w.heap.size + 2, 0, none⟩ (.slice A' (k + 1) cp'))) := HBr.out.trans (HBo2.out.mono (by omega))
        have HRe3 : Hid ((w2.setCell ⟨w.heap.size + 2, 0, none⟩ (.slice A' (k + 1) cp')).heap[w.heap.size + 1]? = some (.cells #[.slice none 0 0, .slice none 0 0] 66 (0, 0))) := (HBo2.out.block _ (by omega)).trans HRe.out
        have HCu3 : Hid ((w2.setCell ⟨w.heap.size + 2, 0, none⟩ (.slice A' (k + 1) cp')).heap[w.heap.size]? = some (.cells #[.slice (some ⟨ba, oa, none⟩) n c, .int .u8 (sd 0), .int .u8 (sd 1), .int .u8 (sd 2), .int .u8 (sd 3)] 79 (0, 0))) := (HBo2.out.block _ (by omega)).trans HCu.out
        clear HIn2 HBo2
        generalize w2.setCell ⟨w.heap.size + 2, 0, none⟩ (.slice A' (k + 1) cp') = w3 at *
        rename Hid (InS2 _ _ _ _ _ _ _ _) => HIn2
        have hob3 : w.heap.size + 2 < w3.heap.size := (Array.getElem?_eq_some_iff.1 HIn2.out.1).1
        have HKq2 : Hid (∀ W, Below w3.heap.size w3 W → W.heap[w.heap.size + 2]? = some (.cells #[.slice A' (k + 1) cp', x2] 66 (0, 0)) ∧ W.cell? ⟨w.heap.size, 0, none⟩ = some (.slice (some ⟨ba, oa, none⟩) n c) ∧ W.cell? ⟨ba, oa + k, none⟩ = some (.int .i8 (xs k)) ∧ ∀ k, k < 4 → W.cell? ⟨w.heap.size, 1 + k, none⟩ = some (.int .u8 (sd k))) := fun W hW => by
          have g := side_at ((hW.block _ (by omega)).trans HCu3.out)
          exact ⟨(hW.block _ hob3).trans HIn2.out.1, g.1, HKx.out W (st HB3.out hW), g.2⟩
        rename_i K2 hK2
        refine wp_region_TK (n1 := 16) (T := TL [isW (.pointer (some ⟨w.heap.size + 2, 1, none⟩)), isW x2, isW (.pointer (some ⟨w.heap.size, 0, none⟩)), isW (.slice (some ⟨ba, oa, none⟩) n c), isW (.int .i64 k), isW (.pointer (some ⟨ba, oa + k, none⟩)), isW (.int .i8 (xs k)), isW (.int .i64 (xs k)), isW (.int .i64 k), isW (.pointer (some ⟨w.heap.size, 1, none⟩)), isW (.pointer (some ⟨w.heap.size, 1 + k, none⟩)), isW (.int .u8 (sd k)), isW (.int .u8 (sd k % 9)), isW (.int .i64 (sd k % 9)), isW (.int .i64 (xs k + sd k % 9)), OneI (xs k + sd k % 9) w3.heap.size]) (by kernel_rfl) (by decide) (by kernel_rfl) (by kernel_rfl) ?step ?tail
        case step =>
          intro listed a W i HL hi9 hilt
          have dl := HL.dl (l := [some 27, some 28, some 29, some 30, some 31, some 32, some 33, some 34, some 35, some 36, some 37, some 38, some 39, some 40, some 41, some 42, some 43, some 44, none]) rfl
          have ap := apart_of dl (by decide)
          obtain ⟨q1, q2, q3, q4⟩ := HKq2.out W HL.below
          have hBW := HL.below.size
          have mono : ∀ p' ∈ [isW (.pointer (some ⟨w.heap.size + 2, 1, none⟩)), isW x2, isW (.pointer (some ⟨w.heap.size, 0, none⟩)), isW (.slice (some ⟨ba, oa, none⟩) n c), isW (.int .i64 k), isW (.pointer (some ⟨ba, oa + k, none⟩)), isW (.int .i8 (xs k)), isW (.int .i64 (xs k)), isW (.int .i64 k), isW (.pointer (some ⟨w.heap.size, 1, none⟩)), isW (.pointer (some ⟨w.heap.size, 1 + k, none⟩)), isW (.int .u8 (sd k)), isW (.int .u8 (sd k % 9)), isW (.int .i64 (sd k % 9)), isW (.int .i64 (xs k + sd k % 9)), OneI (xs k + sd k % 9) w3.heap.size], Mono p' := by
            intro p' hp
            simp only [List.mem_cons, List.not_mem_nil, or_false] at hp
            rcases hp with rfl | rfl | rfl | rfl | rfl | rfl | rfl | rfl | rfl | rfl | rfl | rfl | rfl | rfl | rfl | rfl
            · exact isW_mono _
            · exact isW_mono _
            · exact isW_mono _
            · exact isW_mono _
            · exact isW_mono _
            · exact isW_mono _
            · exact isW_mono _
            · exact isW_mono _
            · exact isW_mono _
            · exact isW_mono _
            · exact isW_mono _
            · exact isW_mono _
            · exact isW_mono _
            · exact isW_mono _
            · exact isW_mono _
            · exact oneI_mono _ _
          rcases (by omega : i = 0 ∨ i = 1 ∨ i = 2 ∨ i = 3 ∨ i = 4 ∨ i = 5 ∨ i = 6 ∨ i = 7 ∨ i = 8 ∨ i = 9 ∨ i = 10 ∨ i = 11 ∨ i = 12 ∨ i = 13 ∨ i = 14 ∨ i = 15) with rfl | rfl | rfl | rfl | rfl | rfl | rfl | rfl | rfl | rfl | rfl | rfl | rfl | rfl | rfl | rfl
          · exact wpOp_of rfl (.inl rfl) (op_fB (by decide) rfl rfl (HL.old 3 (old_of' dl 3 (by decide))) (HL.over mono ap rfl rfl (by simp) (Below.refl _ _) rfl))
          · exact wpOp_of rfl (.inl rfl) (op_lsl (.inl rfl) rfl rfl (HL.got' hi9 (j := 0) (t := 27) rfl (by kernel_rfl) rfl rfl) (box_gen q1).2.1 (HL.over mono ap rfl rfl (by simp) (Below.refl _ _) rfl))
          · exact wpOp_of rfl (.inl rfl) (op_fC (by decide) rfl rfl (HL.old 1 (old_of' dl 1 (by decide))) (HL.over mono ap rfl rfl (by simp) (Below.refl _ _) rfl))
          · exact wpOp_of rfl (.inl rfl) (op_ls8 rfl rfl (HL.got' hi9 (j := 2) (t := 29) rfl (by kernel_rfl) rfl rfl) q2 (HL.over mono ap rfl rfl (by simp) (Below.refl _ _) rfl))
          · exact wpOp_of rfl (.inl rfl) (op_mv rfl rfl (HL.over mono ap rfl rfl (by simp) (Below.refl _ _) (HL.old 4 (old_of' dl 4 (by decide)))))
          · exact wpOp_of rfl (.inl rfl) (op_ix8 rfl rfl (HL.got' hi9 (j := 3) (t := 30) rfl (by kernel_rfl) rfl rfl) (HL.got' hi9 (j := 4) (t := 31) rfl (by kernel_rfl) rfl rfl) hlt (HL.over mono ap rfl rfl (by simp) (Below.refl _ _) rfl))
          · exact wpOp_of rfl (.inl rfl) (op_ld8 rfl rfl (HL.got' hi9 (j := 5) (t := 32) rfl (by kernel_rfl) rfl rfl) q3 (HL.over mono ap rfl rfl (by simp) (Below.refl _ _) rfl))
          · exact wpOp_of rfl (.inl rfl) (op_cv8 rfl rfl (HL.got' hi9 (j := 6) (t := 33) rfl (by kernel_rfl) rfl rfl) (HX.out k hlt) (HL.over mono ap rfl rfl (by simp) (Below.refl _ _) rfl))
          · exact wpOp_of rfl (.inl rfl) (op_mv rfl rfl (HL.over mono ap rfl rfl (by simp) (Below.refl _ _) (HL.old 4 (old_of' dl 4 (by decide)))))
          · exact wpOp_of rfl (.inl rfl) (op_fC (by decide) rfl rfl (HL.old 1 (old_of' dl 1 (by decide))) (HL.over mono ap rfl rfl (by simp) (Below.refl _ _) rfl))
          · exact wpOp_of rfl (.inl rfl) (op_ixU rfl rfl (HL.got' hi9 (j := 9) (t := 36) rfl (by kernel_rfl) rfl rfl) (HL.got' hi9 (j := 8) (t := 35) rfl (by kernel_rfl) rfl rfl) hk4 (HL.over mono ap rfl rfl (by simp) (Below.refl _ _) rfl))
          · exact wpOp_of rfl (.inl rfl) (op_ldU rfl rfl (HL.got' hi9 (j := 10) (t := 37) rfl (by kernel_rfl) rfl rfl) (q4 k hk4) (HL.over mono ap rfl rfl (by simp) (Below.refl _ _) rfl))
          · exact wpOp_of rfl (.inl rfl) (op_re9 rfl rfl (HL.got' hi9 (j := 11) (t := 38) rfl (by kernel_rfl) rfl rfl) (HS.out k) (HL.over mono ap rfl rfl (by simp) (Below.refl _ _) rfl))
          · exact wpOp_of rfl (.inl rfl) (op_cvU rfl rfl (HL.got' hi9 (j := 12) (t := 39) rfl (by kernel_rfl) rfl rfl) (by have := HS.out k; omega) (HL.over mono ap rfl rfl (by simp) (Below.refl _ _) rfl))
          · exact wpOp_of rfl (.inl rfl) (op_ad rfl rfl (HL.got' hi9 (j := 7) (t := 34) rfl (by kernel_rfl) rfl rfl) (HL.got' hi9 (j := 13) (t := 40) rfl (by kernel_rfl) rfl rfl) (HX.out k hlt) (by have := HS.out k; omega) (HL.over mono ap rfl rfl (by simp) (Below.refl _ _) rfl))
          · exact wpOp_of rfl (.inl rfl) (op_bsI rfl rfl (HL.got' hi9 (j := 14) (t := 41) rfl (by kernel_rfl) rfl rfl) (HL.over mono ap rfl rfl (by simp) (bel_nw W _) ⟨_, rfl, hBW, heap_alloc_new W _⟩))
        case tail =>
          intro listed a W HL hall
          have e1 := HL.got 1 _ 28 rfl rfl (hall 1 (by decide))
          obtain ⟨b, e2, f1, f2⟩ := HL.got 15 _ 42 rfl rfl (hall 15 (by decide))
          have dl := HL.dl (l := [some 27, some 28, some 29, some 30, some 31, some 32, some 33, some 34, some 35, some 36, some 37, some 38, some 39, some 40, some 41, some 42, some 43, some 44, none]) rfl
          have s0 := HL.old 0 (old_of' dl 0 (by decide))
          have s1 := HL.old 1 (old_of' dl 1 (by decide))
          have s2 := HL.old 2 (old_of' dl 2 (by decide))
          have s3 := HL.old 3 (old_of' dl 3 (by decide))
          have s4 := HL.old 4 (old_of' dl 4 (by decide))
          have s45 := HL.old 45 (old_of' dl 45 (by decide))
          obtain ⟨f, hf, rfl⟩ := actlitf 46 a (HL.frame.trans (by simp)) (HL.defers.trans rfl)
          rw [show List.range 46 = [0, 1, 2, 3, 4, 5, 6, 7, 8, 9, 10, 11, 12, 13, 14, 15, 16, 17, 18, 19, 20, 21, 22, 23, 24, 25, 26, 27, 28, 29, 30, 31, 32, 33, 34, 35, 36, 37, 38, 39, 40, 41, 42, 43, 44, 45] from rfl]
          simp only [List.map_cons, List.map_nil]
          have q0 : f 0 = CubeV (some ⟨ba, oa, none⟩) n c sd := (hf 0).symm.trans s0
          have q1 : f 1 = .pointer (some ⟨w.heap.size, 0, none⟩) := (hf 1).symm.trans s1
          have q2 : f 2 = .pointer (some ⟨w.heap.size + 1, 0, none⟩) := (hf 2).symm.trans s2
          have q3 : f 3 = .pointer (some ⟨w.heap.size + 1 + 1, 0, none⟩) := (hf 3).symm.trans s3
          have q4 : f 4 = .int .i64 k := (hf 4).symm.trans s4
          have q45 : f 45 = undef := (hf 45).symm.trans s45
          have q28 : f 28 = x2 := (hf 28).symm.trans e1
          have q42 : f 42 = .slice (some ⟨b, 0, none⟩) 1 1 := (hf 42).symm.trans e2
          rw [q0, q1, q2, q3, q4, q45, q28, q42]
          have hb0 := HL.below
          have hin := HIn2.out.below hb0
          clear e1 e2 s0 s1 s2 s3 s4 s45 q0 q1 q2 q3 q4 q45 q28 q42 hf dl hall HL
          refine wpList_appJ rfl (.tmp 28) (.tmp 42) rfl W (xs k + sd k % 9) (w.heap.size + 3) x2 k (fun k => xs k + sd k % 9) rfl b rfl f2 hin.2.2.1 (by omega) (by have := (Array.getElem?_eq_some_iff.1 hin.1).1; omega) ?_
          intro v' w2 hown hgr hat
          obtain ⟨hbx, hin2, hBo⟩ := hin.app2 hown hgr hat
          obtain ⟨A', cp', rfl, -⟩ := hown.ints
          have HIn3 := Lib.hid hin2
          have HBo2 : Hid (Below (w.heap.size + 2) w3 _) := (hb0.mono (by omega)).trans hBo
          obtain ⟨t0, t1, u0, u1⟩ := box_gen hbx
          clear hin hin2 hbx hgr hat hown f1 f2 hb0 hBo
          go_wp2_with fail
          clear t0 t1 u0 u1
          go_roundw
          case rel => exact ⟨k + 1, _, _, by omega, by go_num, ⟨HIn3.out.1, HIn3.out.2.1, HIn3.out.2.2.1.congr fun j _ => by unfold updZ; split <;> simp [*], HIn3.out.2.2.2⟩, (HBo2.out.block _ (by omega)).trans HRe3.out, (HBo2.out.block _ (by omega)).trans HCu3.out, HB3.out.trans (HBo2.out.mono (by omega))⟩
          case measure => simp [intOf]; omega
    · have hkm : k = min n 4 := by omega
      have HKM := Lib.hid hkm
      obtain ⟨P, c1, rfl, -⟩ := HIn1.out.2.1.ints
      obtain ⟨Q, d1, rfl, -⟩ := HIn1.out.2.2.1.ints
      obtain ⟨t0, t1, u0, u1⟩ := box_gen HIn1.out.1
      have hres := HRe.out
      obtain ⟨r0, r1, z0, z1⟩ := box_at hres
      clear hkm
      by_cases hkn : (k : Int) < (n : Int)
      · have hk4' : ¬ (k : Int) < 4 := by omega
        go_wp2_with fail
        refine bodyPost_ret (v := BoxW P Q k c1 k d1) (results_cell_row Tryz.results38 _ _ (w.heap.size + 1) 66 _ (0, 0) _ rfl (put2 hres _ _) Tryz.underlying66 rfl (by rw [info_box]; rfl)) rfl ?_
        have gr : wr.grownBy ((wr.setCell ⟨w.heap.size + 1, 0, none⟩ (.slice P k c1)).setCell ⟨w.heap.size + 1, 1, none⟩ (.slice Q k d1)) (some (w.heap.size + 1)) := gr2 (grown_set _ _ _ _) (grown_set _ _ _ _)
        exact ⟨P, Q, k, ⟨c1, d1, rfl⟩, HKM.out, (HIn1.out.2.1.kept gr (HIn1.out.2.1.ne (by omega))).ints', (HIn1.out.2.2.1.kept gr (HIn1.out.2.2.1.ne (by omega))).ints', (HBr.out.setCell (p := ⟨w.heap.size + 1, 0, none⟩) (by show w.heap.size ≤ w.heap.size + 1; omega) _).setCell (p := ⟨w.heap.size + 1, 1, none⟩) (by show w.heap.size ≤ w.heap.size + 1; omega) _⟩
      · go_wp2_with fail
        refine bodyPost_ret (v := BoxW P Q k c1 k d1) (results_cell_row Tryz.results38 _ _ (w.heap.size + 1) 66 _ (0, 0) _ rfl (put2 hres _ _) Tryz.underlying66 rfl (by rw [info_box]; rfl)) rfl ?_
        have gr : wr.grownBy ((wr.setCell ⟨w.heap.size + 1, 0, none⟩ (.slice P k c1)).setCell ⟨w.heap.size + 1, 1, none⟩ (.slice Q k d1)) (some (w.heap.size + 1)) := gr2 (grown_set _ _ _ _) (grown_set _ _ _ _)
        exact ⟨P, Q, k, ⟨c1, d1, rfl⟩, HKM.out, (HIn1.out.2.1.kept gr (HIn1.out.2.1.ne (by omega))).ints', (HIn1.out.2.2.1.kept gr (HIn1.out.2.2.1.ne (by omega))).ints', (HBr.out.setCell (p := ⟨w.heap.size + 1, 0, none⟩) (by show w.heap.size ≤ w.heap.size + 1; omega) _).setCell (p := ⟨w.heap.size + 1, 1, none⟩) (by show w.heap.size ≤ w.heap.size + 1; omega) _⟩
end Go.Proofs.YtkckoanphciddaaGreatDoor
end

/- Chunks and their neighbours: arithmetic. -/
section
namespace Go.Proofs.YtkckoanphciddaaGreatDoor
open Go Go.RowKit Go.Deep

/-- The number whose digits are d, from place k on, m of them. -/
def valC (e d : Nat → Nat) : Nat → Nat → Nat
  | _, 0 => 0
  | k, m + 1 => d k * cntC e (k + 1) m + valC e d (k + 1) m
theorem valC_lt {e d : Nat → Nat} : ∀ m k, (∀ j, k ≤ j → j < k + m → d j < e j) → valC e d k m < cntC e k m
  | 0, k, _ => by unfold valC cntC; omega
  | m + 1, k, h => by
    have h1 := valC_lt m (k + 1) fun j h1 h2 => h j (by omega) (by omega)
    have h2 := h k (Nat.le_refl _) (by omega)
    rw [valC, cntC]
    generalize cntC e (k + 1) m = V at *
    generalize valC e d (k + 1) m = r at *
    have h3 : (d k + 1) * V ≤ e k * V := Nat.mul_le_mul_right _ h2
    rw [Nat.add_mul, Nat.one_mul] at h3
    omega
theorem valC_dig {e d : Nat → Nat} {n : Nat} : ∀ m k, k + m = n → (∀ j, k ≤ j → j < n → d j < e j) → ∀ q j, k ≤ j → j < n → digC e n (valC e d k m + q * volC e n k) j = d j
  | 0, k, hk, _, q, j, h1, h2 => by omega
  | m + 1, k, hk, h, q, j, h1, h2 => by
    have hv : volC e n k = e k * volC e n (k + 1) := volC_step (by omega)
    have hc : cntC e (k + 1) m = volC e n (k + 1) := by unfold volC; rw [show n - (k + 1) = m by omega]
    have hr : valC e d (k + 1) m < volC e n (k + 1) := by
      rw [← hc]
      exact valC_lt m (k + 1) fun j h3 h4 => h j (by omega) (by omega)
    have e1 : valC e d k (m + 1) + q * volC e n k = valC e d (k + 1) m + (d k + q * e k) * volC e n (k + 1) := by
      rw [valC, hv, hc, Nat.add_mul, Nat.mul_assoc]
      omega
    rw [e1]
    by_cases hj : j = k
    · subst hj
      have hd := h j (Nat.le_refl _) h2
      unfold digC
      rw [Nat.add_mul_div_right _ _ (by omega), Nat.div_eq_of_lt hr, Nat.zero_add, Nat.add_mul_mod_self_right, Nat.mod_eq_of_lt hd]
    · exact valC_dig m (k + 1) (by omega) (fun j h3 h4 => h j (by omega) h4) _ j (by omega) h2
/-- Each list of digits is that of a number. -/
theorem dig_onto {e d : Nat → Nat} {n : Nat} (h : ∀ j, j < n → d j < e j) : ∃ t, t < volC e n 0 ∧ ∀ j, j < n → digC e n t j = d j := by
  refine ⟨valC e d 0 n, ?_, fun j hj => ?_⟩
  · unfold volC
    rw [Nat.sub_zero]
    exact valC_lt n 0 fun j _ h2 => h j (by omega)
  · have := valC_dig n 0 (by omega) (fun j _ h2 => h j h2) 0 j (Nat.zero_le _) hj
    rwa [Nat.zero_mul, Nat.add_zero] at this
/-- Where the carry ends. -/
theorem carry_at {e : Nat → Nat} {n t : Nat} (he : ∀ k, k < n → 1 ≤ e k) (ht : t + 1 < volC e n 0) : ∃ k, k < n ∧ volC e n (k + 1) ∣ t + 1 ∧ digC e n t k ≠ e k - 1 := by
  have key : ∀ m k, k + m = n → (volC e n k ∣ t + 1) ∨ ∃ j, k ≤ j ∧ j < n ∧ volC e n (j + 1) ∣ t + 1 ∧ digC e n t j ≠ e j - 1 := by
    intro m
    induction m with
    | zero => intro k hk; obtain rfl : k = n := by omega
              exact .inl (by rw [volC_end]; exact Nat.one_dvd _)
    | succ m ih =>
      intro k hk
      rcases ih (k + 1) (by omega) with h | ⟨j, h1, h2⟩
      · by_cases h3 : digC e n t k = e k - 1
        · exact .inl (carry_on he (by omega) h h3)
        · exact .inr ⟨k, Nat.le_refl _, by omega, h, h3⟩
      · exact .inr ⟨j, by omega, h2⟩
  rcases key n 0 (by omega) with h | ⟨j, _, h⟩
  · exact absurd (Nat.le_of_dvd (by omega) h) (by omega)
  · exact ⟨j, h⟩
theorem cmpTo_alike {f g : Nat → Int} {m n : Nat} (h : ∀ k, k < n → f k = g k) (hm : n ≤ m) : ∀ k, k ≤ n → cmpTo f g m k = 0
  | 0, _ => rfl
  | k + 1, hk => by
    rw [cmpTo, cmpTo_alike h hm k (by omega), if_pos rfl, if_neg (by omega), h k (by omega)]
    unfold Lib.compareInt
    rw [if_neg (by omega), if_neg (by omega)]
/-- Coordinates in their order: each is less than the next. -/
theorem crd_less {lo : Nat → Int} {e : Nat → Nat} {n t : Nat} (he : ∀ k, k < n → 1 ≤ e k) (ht : t + 1 < volC e n 0) : cmpS n n (crdZ lo e n t) (crdZ lo e n (t + 1)) = -1 := by
  obtain ⟨k, hk, h1, h2⟩ := carry_at he ht
  obtain ⟨h3, h4, _⟩ := carry_end he hk h1 h2
  have e0 : cmpTo (crdZ lo e n t) (crdZ lo e n (t + 1)) n k = 0 := cmpTo_alike (n := k) (fun j hj => by unfold crdZ; rw [h4 j hj]) (by omega) k (Nat.le_refl _)
  have e1 : cmpTo (crdZ lo e n t) (crdZ lo e n (t + 1)) n (k + 1) = -1 := by
    rw [cmpTo, e0, if_pos rfl, if_neg (by omega)]
    unfold Lib.compareInt crdZ
    rw [h3, if_pos (by omega)]
  have e2 := cmpTo_le (n := n) (show cmpTo (crdZ lo e n t) (crdZ lo e n (t + 1)) n (k + 1) ≠ 0 by rw [e1]; decide) (by omega)
  unfold cmpS
  rw [e2, e1]
  rfl
/-- Coordinates of a box are among those that are yielded, and no others. -/
theorem crd_onto {lo hi : Nat → Int} {n : Nat} {e : Nat → Nat} (he : ∀ k, k < n → hi k = lo k + e k - 1) {v : Nat → Int} (hv : ∀ k, k < n → lo k ≤ v k ∧ v k ≤ hi k) : ∃ t, t < volC e n 0 ∧ ∀ k, k < n → crdZ lo e n t k = v k := by
  obtain ⟨t, ht, h⟩ := dig_onto (e := e) (d := fun k => (v k - lo k).toNat) (n := n) (fun j hj => by have := he j hj; have := hv j hj; omega)
  refine ⟨t, ht, fun k hk => ?_⟩
  unfold crdZ
  rw [h k hk]
  have := hv k hk
  show lo k + ((v k - lo k).toNat : Int) = v k
  omega
theorem crd_in {lo hi : Nat → Int} {n : Nat} {e : Nat → Nat} (he : ∀ k, k < n → 1 ≤ e k ∧ hi k = lo k + e k - 1) (t : Nat) {k : Nat} (hk : k < n) : lo k ≤ crdZ lo e n t k ∧ crdZ lo e n t k ≤ hi k := by
  have h := digC_lt (e := e) (n := n) (t := t) (fun k hk => (he k hk).1) hk
  have := (he k hk).2
  unfold crdZ
  omega

/-- Along one dimension: a chunk is a home exactly if the coordinate is in its wide part. -/
theorem home_wide {y L s o c : Int} (h1 : 0 ≤ y) (h2 : y ≤ L) (h3 : 1 ≤ s) (h4 : 0 ≤ o) (h6 : 0 ≤ c) (h7 : c ≤ L / s) :
    (max (y - o) 0 / s ≤ c ∧ c ≤ min ((y + o) / s) (L / s)) ↔ (max (c * s - o) 0 ≤ y ∧ y ≤ min (min (c * s + s - 1) L + o) L) := by
  have a1 : max (y - o) 0 / s ≤ c ↔ max (y - o) 0 < (c + 1) * s := by
    rw [show max (y - o) 0 / s ≤ c ↔ max (y - o) 0 / s < c + 1 by omega]
    exact Int.ediv_lt_iff_lt_mul (by omega)
  have a2 : c ≤ (y + o) / s ↔ c * s ≤ y + o := Int.le_ediv_iff_mul_le (by omega)
  have a3 : 0 ≤ c * s := Int.mul_nonneg h6 (by omega)
  rw [Int.add_mul, Int.one_mul] at a1
  omega
/-- The chunk of a coordinate, along one dimension. -/
theorem chunk_in {y L s : Int} (h1 : 0 ≤ y) (h2 : y ≤ L) (h3 : 1 ≤ s) : 0 ≤ y / s ∧ y / s ≤ L / s ∧ y / s * s ≤ y ∧ y ≤ y / s * s + s - 1 := by
  have a1 : 0 ≤ y / s := Int.ediv_nonneg h1 (by omega)
  have a2 : y / s ≤ L / s := Int.ediv_le_ediv (by omega) h2
  have a3 := Int.ediv_mul_le y (by omega : s ≠ 0)
  have a4 := Int.lt_ediv_add_one_mul_self y (by omega : 0 < s)
  rw [Int.add_mul, Int.one_mul] at a4
  omega
/-- Behind the last chunk nothing comes; another one begins where its core ends. -/
theorem chunk_next {L s c : Int} (h3 : 1 ≤ s) : (L / s < c + 1 ↔ L < c * s + s) ∧ (c + 1 ≤ L / s ↔ c * s + s ≤ L) := by
  have a1 : L / s < c + 1 ↔ L < (c + 1) * s := Int.ediv_lt_iff_lt_mul (by omega)
  have a2 : c + 1 ≤ L / s ↔ (c + 1) * s ≤ L := Int.le_ediv_iff_mul_le (by omega)
  rw [Int.add_mul, Int.one_mul] at a1 a2
  exact ⟨a1, a2⟩
end Go.Proofs.YtkckoanphciddaaGreatDoor
end
