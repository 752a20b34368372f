/- The walk of SpaceHilbert. -/
import Derived.Test.YthddlbngjhkhhaaGreatDoorZRgT
import Derived.Test.YthddlbngjhkhhaaGreatDoorZLEq
import Derived.Test.YthddlbngjhkhhaaGreatDoorZWka
namespace Go.Proofs.YthddlbngjhkhhaaGreatDoor
open Go Go.RowKit Go.Deep Go.Shelf

section
variable {ops : Array Oper} {Q : Exit → Act → World → Prop} {K : Act → World → Prop} {a : Act} {w : World}
set_option maxRecDepth 100000 in
theorem op_cv16 {o : Oper} {d t : Nat} {x : Int} (ho : o.op = .convert 22 3 (.tmp t)) (hd : o.dst = some d) (hs : slot a t = .int .i16 x) (hx : -32768 ≤ x ∧ x ≤ 32767) (h : K (putSlot a d (.int .i64 x)) w) : o.wp Tryz.prog a w K Q := by
  obtain ⟨op, dst, ty, pos, after, guard⟩ := o
  dsimp only at ho hd
  subst ho hd
  have hs' : a.tmps[t]?.getD undef = .int .i16 x := hs
  have hw : IntKind.i64.wrap x = x := w64 (by omega) (by omega)
  unfold Oper.wp
  go_simp
  exact h
set_option maxRecDepth 100000 in
theorem op_sb {o : Oper} {d t t2 : Nat} {x y : Int} (ho : o.op = .binOp .sub 3 (.tmp t) (.tmp t2) 3) (hd : o.dst = some d) (hs : slot a t = .int .i64 x) (hs2 : slot a t2 = .int .i64 y) (hx : -9223372036854775808 ≤ x - y ∧ x - y ≤ 9223372036854775807) (h : K (putSlot a d (.int .i64 (x - y))) w) : o.wp Tryz.prog a w K Q := by
  obtain ⟨op, dst, ty, pos, after, guard⟩ := o
  dsimp only at ho hd
  subst ho hd
  have hs' : a.tmps[t]?.getD undef = .int .i64 x := hs
  have hs2' : a.tmps[t2]?.getD undef = .int .i64 y := hs2
  have hw : IntKind.i64.wrap (x - y) = x - y := w64 (by omega) (by omega)
  unfold Oper.wp
  go_simp
  exact h
set_option maxRecDepth 100000 in
theorem op_ad2 {o : Oper} {d t t2 : Nat} {x y : Int} (ho : o.op = .binOp .add 3 (.tmp t) (.tmp t2) 3) (hd : o.dst = some d) (hs : slot a t = .int .i64 x) (hs2 : slot a t2 = .int .i64 y) (hx : -9223372036854775808 ≤ x + y ∧ x + y ≤ 9223372036854775807) (h : K (putSlot a d (.int .i64 (x + y))) w) : o.wp Tryz.prog a w K Q := by
  obtain ⟨op, dst, ty, pos, after, guard⟩ := o
  dsimp only at ho hd
  subst ho hd
  have hs' : a.tmps[t]?.getD undef = .int .i64 x := hs
  have hs2' : a.tmps[t2]?.getD undef = .int .i64 y := hs2
  have hw : IntKind.i64.wrap (x + y) = x + y := w64 (by omega) (by omega)
  unfold Oper.wp
  go_simp
  exact h
set_option maxRecDepth 100000 in
theorem op_sh {o : Oper} {d t k : Nat} (ho : o.op = .binOp .shl 3 (.const (.int .i64 1)) (.tmp t) 3) (hd : o.dst = some d) (hs : slot a t = .int .i64 (k : Nat)) (hk : k ≤ 6) (h : K (putSlot a d (.int .i64 (2 ^ k : Nat))) w) : o.wp Tryz.prog a w K Q := by
  obtain ⟨op, dst, ty, pos, after, guard⟩ := o
  dsimp only at ho hd
  subst ho hd
  have hs' : a.tmps[t]?.getD undef = .int .i64 (k : Nat) := hs
  have h0 : (0 : Int) ≤ (k : Nat) := by omega
  have hw : IntKind.i64.wrap ((2 : Int) ^ k) = ((2 ^ k : Nat) : Int) := by
    rcases (by omega : k = 0 ∨ k = 1 ∨ k = 2 ∨ k = 3 ∨ k = 4 ∨ k = 5 ∨ k = 6) with rfl | rfl | rfl | rfl | rfl | rfl | rfl <;> rfl
  unfold Oper.wp
  go_simp
  exact h
set_option maxRecDepth 100000 in
theorem op_s1 {o : Oper} {d t q : Nat} (ho : o.op = .binOp .sub 3 (.tmp t) (.const (.int .i64 1)) 3) (hd : o.dst = some d) (hs : slot a t = .int .i64 (q : Nat)) (hq : 1 ≤ q) (hq2 : q ≤ 64) (h : K (putSlot a d (.int .i64 (q - 1 : Nat))) w) : o.wp Tryz.prog a w K Q := by
  obtain ⟨op, dst, ty, pos, after, guard⟩ := o
  dsimp only at ho hd
  subst ho hd
  have hs' : a.tmps[t]?.getD undef = .int .i64 (q : Nat) := hs
  have hw : IntKind.i64.wrap ((q : Int) - 1) = ((q - 1 : Nat) : Int) := by rw [w64 (by omega) (by omega)]; omega
  unfold Oper.wp
  go_simp
  exact h
end
set_option maxRecDepth 100000 in
set_option maxHeartbeats 8000000 in
theorem l_hilbert (w : World) (dm bt lz : Int) (hdm : 0 ≤ dm ∧ dm ≤ 255) (hbt : 0 ≤ bt ∧ bt ≤ 255) (hlz : -32768 ≤ lz ∧ lz ≤ 32767) (hw : WorksAt w) :
    Calls Tryz.prog 3 #[.int .u8 dm, .int .u8 bt, .int .i16 lz] w fun e w' => e = .returned (.bool true) ∧ Below w.heap.size w w' := by
  have HW := Lib.hid hw
  obtain ⟨n, hn, hn1, hn4⟩ : ∃ n : Nat, dm.tmod 4 = (n : Int) - 1 ∧ 1 ≤ n ∧ n ≤ 4 := by
    rw [Int.tmod_eq_emod_of_nonneg hdm.1]
    exact ⟨(dm % 4).toNat + 1, by omega, by omega, by omega⟩
  obtain ⟨k, hk, hk6⟩ : ∃ k : Nat, bt.tmod 7 = (k : Int) ∧ k ≤ 6 := by
    rw [Int.tmod_eq_emod_of_nonneg hbt.1]
    exact ⟨(bt % 7).toNat, by omega, by omega⟩
  have hwl : IntKind.i64.wrap lz = lz := w64 (by omega) (by omega)
  clear hw
  have hnk : wrap64 ((1 + ((n : Int) - 1)) * (k : Int)) = ((n * k : Nat) : Int) := by
    have h9 : n * k ≤ 4 * 6 := Nat.mul_le_mul hn4 hk6
    rw [show (1 : Int) + ((n : Int) - 1) = n by omega, ← Int.natCast_mul]
    generalize n * k = q at *
    unfold wrap64
    omega
  by_cases hp : n * k ≤ 10
  · have hq : ¬ 10 < wrap64 ((1 + ((n : Int) - 1)) * (k : Int)) := by rw [hnk]; omega
    have HP := Lib.hid hp
    clear hp
    go_enter Tryz.func3, Tryz.ntmps3
    go_wp2_with fail
    rw [show (1 : Int) + ((n : Int) - 1) = n by omega]
    have HB0 : Hid (Below w.heap.size w (w.alloc (.cells #[.slice none 0 0, .slice none 0 0] 26))) := (Below.refl _ _).alloc (Nat.le_refl _) _
    have hr0 := heap_alloc_new w (.cells #[.slice none 0 0, .slice none 0 0] 26)
    generalize w.alloc (.cells #[.slice none 0 0, .slice none 0 0] 26) = W0 at *
    go_loopw [10] (fun i wr => ∃ (j : Nat) (x1 x2 : Value), j ≤ n ∧ i = .int .i64 j ∧ Hid (InS2 w.heap.size wr x1 x2 j j (fun j => lz - j) (fun j => lz - j + (2 ^ k - 1 : Nat))) ∧ Hid (Below w.heap.size w wr)) (fun i _ => n - (intOf i).toNat)
    case atStart => exact ⟨0, _, _, Nat.zero_le _, rfl, ⟨hr0, OwnI.nil _ _ _, OwnI.nil _ _ _, .inl rfl⟩, HB0.out⟩
    case round =>
      obtain ⟨j, x1, x2, hj, rfl, HIn, HBr⟩ := hrel
      have hobr : w.heap.size < wr.heap.size := (Array.getElem?_eq_some_iff.1 HIn.out.1).1
      obtain ⟨t0, t1, u0, u1⟩ := box_gen HIn.out.1
      by_cases hlt : j < n
      · have hj9 : j ≤ 1000000 := by omega
        have hob9 : w.heap.size + 1 ≤ wr.heap.size := hobr
        have hlj : -9223372036854775808 ≤ lz - (j : Int) ∧ lz - (j : Int) ≤ 9223372036854775807 := by omega
        obtain ⟨P1, c1, rfl, -⟩ := HIn.out.2.1.ints
        obtain ⟨P2, c2, rfl, -⟩ := HIn.out.2.2.1.ints
        go_wp2_with (first
          | (at_builtin; refine wpList_appI rfl _ _ rfl wr (lz - (j : Int)) (w.heap.size + 1) (.slice P1 j c1) j _ rfl wr.heap.size rfl rfl HIn.out.2.1 hj9 hob9 ?_; intro v1' w8 ho8 hg8 hat8; obtain ⟨Pa, qa, rfl, -⟩ := ho8.ints; obtain ⟨hbx8, hin8, hBo8⟩ := HIn.out.app1 ho8 hg8 hat8; clear t0 t1 u0 u1; obtain ⟨t0, t1, u0, u1⟩ := box_gen hbx8; have HIn8 := Lib.hid hin8; have HBo8 := Lib.hid hBo8; clear ho8 hg8 hat8 hbx8 hin8 hBo8))
        have HB3 : Hid (Below w.heap.size w (w8.setCell ⟨w.heap.size, 0, none⟩ (.slice Pa (j + 1) qa))) := HBr.out.trans (HBo8.out.mono (Nat.le_refl _))
        clear t0 t1 u0 u1
        generalize w8.setCell ⟨w.heap.size, 0, none⟩ (.slice Pa (j + 1) qa) = w3 at *
        obtain ⟨t0, t1, u0, u1⟩ := box_gen HIn8.out.1
        have hob3 : w.heap.size + 1 ≤ w3.heap.size := (Array.getElem?_eq_some_iff.1 HIn8.out.1).1
        have hpk : (2 : Nat) ^ k ≤ 64 := by
          have := Nat.pow_le_pow_right (n := 2) (by decide) hk6
          exact this
        have hlc : -9223372036854775808 ≤ lz - (j : Int) + ((2 ^ k - 1 : Nat) : Int) ∧ lz - (j : Int) + ((2 ^ k - 1 : Nat) : Int) ≤ 9223372036854775807 := by
          have h9 : 2 ^ k - 1 ≤ 64 := by omega
          generalize 2 ^ k - 1 = c at *
          omega
        have HKq2 : Hid (∀ W, Below w3.heap.size w3 W → W.heap[w.heap.size]? = some (.cells #[.slice Pa (j + 1) qa, .slice P2 j c2] 26 (0, 0)) ∧ True) := fun W hW => ⟨(hW.block _ (by omega)).trans HIn8.out.1, trivial⟩
        rename_i K2 hK2
        refine wp_region_TK (n1 := 11) (T := TL [isW (.pointer (some ⟨w.heap.size, 1, none⟩)), isW (.slice P2 j c2), isW (.int .i16 lz), isW (.int .i64 lz), isW (.int .i64 j), isW (.int .i64 (lz - j)), isW (.int .i64 k), isW (.int .i64 (2 ^ k : Nat)), isW (.int .i64 (2 ^ k - 1 : Nat)), isW (.int .i64 (lz - j + (2 ^ k - 1 : Nat))), OneI (lz - j + (2 ^ k - 1 : Nat)) w3.heap.size]) (by kernel_rfl) (by decide) (by kernel_rfl) (by kernel_rfl) ?step ?tail
        case step =>
          intro listed a W i HL hi9 hilt
          have dl := HL.dl (l := [some 42, some 43, some 44, some 45, some 46, some 47, some 48, some 49, some 50, some 51, some 52, some 53, some 54, none]) rfl
          have ap := apart_of dl (by decide)
          obtain ⟨q1, q2⟩ := HKq2.out W HL.below
          have hBW := HL.below.size
          have mono : ∀ p' ∈ [isW (.pointer (some ⟨w.heap.size, 1, none⟩)), isW (.slice P2 j c2), isW (.int .i16 lz), isW (.int .i64 lz), isW (.int .i64 j), isW (.int .i64 (lz - j)), isW (.int .i64 k), isW (.int .i64 (2 ^ k : Nat)), isW (.int .i64 (2 ^ k - 1 : Nat)), isW (.int .i64 (lz - j + (2 ^ k - 1 : Nat))), OneI (lz - j + (2 ^ k - 1 : Nat)) w3.heap.size], Mono p' := by
            intro p' hp
            simp only [List.mem_cons, List.not_mem_nil, or_false] at hp
            rcases hp with rfl | rfl | rfl | rfl | rfl | rfl | rfl | rfl | rfl | rfl | rfl
            · exact isW_mono _
            · exact isW_mono _
            · exact isW_mono _
            · exact isW_mono _
            · exact isW_mono _
            · exact isW_mono _
            · exact isW_mono _
            · exact isW_mono _
            · exact isW_mono _
            · exact isW_mono _
            · exact oneI_mono _ _
          rcases (by omega : i = 0 ∨ i = 1 ∨ i = 2 ∨ i = 3 ∨ i = 4 ∨ i = 5 ∨ i = 6 ∨ i = 7 ∨ i = 8 ∨ i = 9 ∨ i = 10) with rfl | rfl | rfl | rfl | rfl | rfl | rfl | rfl | rfl | rfl | rfl
          · exact wpOp_of rfl (.inl rfl) (op_fB (by decide) rfl rfl (HL.old 9 (old_of' dl 9 (by decide))) (HL.over mono ap rfl rfl (by simp) (Below.refl _ _) rfl))
          · exact wpOp_of rfl (.inl rfl) (op_lsl (.inl rfl) rfl rfl (HL.got' hi9 (j := 0) (t := 42) rfl (by kernel_rfl) rfl rfl) (box_gen q1).2.1 (HL.over mono ap rfl rfl (by simp) (Below.refl _ _) rfl))
          · exact wpOp_of rfl (.inl rfl) (op_mv rfl rfl (HL.over mono ap rfl rfl (by simp) (Below.refl _ _) (HL.old 2 (old_of' dl 2 (by decide)))))
          · exact wpOp_of rfl (.inl rfl) (op_cv16 rfl rfl (HL.got' hi9 (j := 2) (t := 44) rfl (by kernel_rfl) rfl rfl) hlz (HL.over mono ap rfl rfl (by simp) (Below.refl _ _) rfl))
          · exact wpOp_of rfl (.inl rfl) (op_mv rfl rfl (HL.over mono ap rfl rfl (by simp) (Below.refl _ _) (HL.old 10 (old_of' dl 10 (by decide)))))
          · exact wpOp_of rfl (.inl rfl) (op_sb rfl rfl (HL.got' hi9 (j := 3) (t := 45) rfl (by kernel_rfl) rfl rfl) (HL.got' hi9 (j := 4) (t := 46) rfl (by kernel_rfl) rfl rfl) hlj (HL.over mono ap rfl rfl (by simp) (Below.refl _ _) rfl))
          · exact wpOp_of rfl (.inl rfl) (op_mv rfl rfl (HL.over mono ap rfl rfl (by simp) (Below.refl _ _) (HL.old 8 (old_of' dl 8 (by decide)))))
          · exact wpOp_of rfl (.inl rfl) (op_sh rfl rfl (HL.got' hi9 (j := 6) (t := 48) rfl (by kernel_rfl) rfl rfl) hk6 (HL.over mono ap rfl rfl (by simp) (Below.refl _ _) rfl))
          · exact wpOp_of rfl (.inl rfl) (op_s1 rfl rfl (HL.got' hi9 (j := 7) (t := 49) rfl (by kernel_rfl) rfl rfl) (Nat.two_pow_pos k) hpk (HL.over mono ap rfl rfl (by simp) (Below.refl _ _) rfl))
          · exact wpOp_of rfl (.inl rfl) (op_ad2 rfl rfl (HL.got' hi9 (j := 5) (t := 47) rfl (by kernel_rfl) rfl rfl) (HL.got' hi9 (j := 8) (t := 50) rfl (by kernel_rfl) rfl rfl) hlc (HL.over mono ap rfl rfl (by simp) (Below.refl _ _) rfl))
          · exact wpOp_of rfl (.inl rfl) (op_bsI rfl rfl (HL.got' hi9 (j := 9) (t := 51) rfl (by kernel_rfl) rfl rfl) (HL.over mono ap rfl rfl (by simp) (bel_nw W _) ⟨_, rfl, hBW, heap_alloc_new W _⟩))
        case tail =>
          intro listed a W HL hall
          have e1 := HL.got 1 _ 43 rfl rfl (hall 1 (by decide))
          obtain ⟨b, e2, f1, f2⟩ := HL.got 10 _ 52 rfl rfl (hall 10 (by decide))
          have dl := HL.dl (l := [some 42, some 43, some 44, some 45, some 46, some 47, some 48, some 49, some 50, some 51, some 52, some 53, some 54, none]) rfl
          have s0 := HL.old 0 (old_of' dl 0 (by decide))
          have s1 := HL.old 1 (old_of' dl 1 (by decide))
          have s2 := HL.old 2 (old_of' dl 2 (by decide))
          have s3 := HL.old 3 (old_of' dl 3 (by decide))
          have s4 := HL.old 4 (old_of' dl 4 (by decide))
          have s5 := HL.old 5 (old_of' dl 5 (by decide))
          have s6 := HL.old 6 (old_of' dl 6 (by decide))
          have s7 := HL.old 7 (old_of' dl 7 (by decide))
          have s8 := HL.old 8 (old_of' dl 8 (by decide))
          have s9 := HL.old 9 (old_of' dl 9 (by decide))
          have s10 := HL.old 10 (old_of' dl 10 (by decide))
          have s11 := HL.old 11 (old_of' dl 11 (by decide))
          have s12 := HL.old 12 (old_of' dl 12 (by decide))
          have s13 := HL.old 13 (old_of' dl 13 (by decide))
          have s14 := HL.old 14 (old_of' dl 14 (by decide))
          have s15 := HL.old 15 (old_of' dl 15 (by decide))
          have s16 := HL.old 16 (old_of' dl 16 (by decide))
          have s17 := HL.old 17 (old_of' dl 17 (by decide))
          have s18 := HL.old 18 (old_of' dl 18 (by decide))
          have s19 := HL.old 19 (old_of' dl 19 (by decide))
          have s20 := HL.old 20 (old_of' dl 20 (by decide))
          have s21 := HL.old 21 (old_of' dl 21 (by decide))
          have s22 := HL.old 22 (old_of' dl 22 (by decide))
          have s23 := HL.old 23 (old_of' dl 23 (by decide))
          have s24 := HL.old 24 (old_of' dl 24 (by decide))
          have s25 := HL.old 25 (old_of' dl 25 (by decide))
          have s26 := HL.old 26 (old_of' dl 26 (by decide))
          have s27 := HL.old 27 (old_of' dl 27 (by decide))
          have s55 := HL.old 55 (old_of' dl 55 (by decide))
          have s56 := HL.old 56 (old_of' dl 56 (by decide))
          have s57 := HL.old 57 (old_of' dl 57 (by decide))
          have s58 := HL.old 58 (old_of' dl 58 (by decide))
          have s59 := HL.old 59 (old_of' dl 59 (by decide))
          have s60 := HL.old 60 (old_of' dl 60 (by decide))
          have s61 := HL.old 61 (old_of' dl 61 (by decide))
          have s62 := HL.old 62 (old_of' dl 62 (by decide))
          have s63 := HL.old 63 (old_of' dl 63 (by decide))
          have s64 := HL.old 64 (old_of' dl 64 (by decide))
          have s65 := HL.old 65 (old_of' dl 65 (by decide))
          have s66 := HL.old 66 (old_of' dl 66 (by decide))
          have s67 := HL.old 67 (old_of' dl 67 (by decide))
          have s68 := HL.old 68 (old_of' dl 68 (by decide))
          have s69 := HL.old 69 (old_of' dl 69 (by decide))
          have s70 := HL.old 70 (old_of' dl 70 (by decide))
          have s71 := HL.old 71 (old_of' dl 71 (by decide))
          have s72 := HL.old 72 (old_of' dl 72 (by decide))
          have s73 := HL.old 73 (old_of' dl 73 (by decide))
          have s74 := HL.old 74 (old_of' dl 74 (by decide))
          have s75 := HL.old 75 (old_of' dl 75 (by decide))
          have s76 := HL.old 76 (old_of' dl 76 (by decide))
          have s77 := HL.old 77 (old_of' dl 77 (by decide))
          have s78 := HL.old 78 (old_of' dl 78 (by decide))
          have s79 := HL.old 79 (old_of' dl 79 (by decide))
          have s80 := HL.old 80 (old_of' dl 80 (by decide))
          have s81 := HL.old 81 (old_of' dl 81 (by decide))
          have s82 := HL.old 82 (old_of' dl 82 (by decide))
          have s83 := HL.old 83 (old_of' dl 83 (by decide))
          have s84 := HL.old 84 (old_of' dl 84 (by decide))
          have s85 := HL.old 85 (old_of' dl 85 (by decide))
          have s86 := HL.old 86 (old_of' dl 86 (by decide))
          have s87 := HL.old 87 (old_of' dl 87 (by decide))
          have s88 := HL.old 88 (old_of' dl 88 (by decide))
          have s89 := HL.old 89 (old_of' dl 89 (by decide))
          have s90 := HL.old 90 (old_of' dl 90 (by decide))
          have s91 := HL.old 91 (old_of' dl 91 (by decide))
          have s92 := HL.old 92 (old_of' dl 92 (by decide))
          have s93 := HL.old 93 (old_of' dl 93 (by decide))
          have s94 := HL.old 94 (old_of' dl 94 (by decide))
          have s95 := HL.old 95 (old_of' dl 95 (by decide))
          have s96 := HL.old 96 (old_of' dl 96 (by decide))
          have s97 := HL.old 97 (old_of' dl 97 (by decide))
          have s98 := HL.old 98 (old_of' dl 98 (by decide))
          have s99 := HL.old 99 (old_of' dl 99 (by decide))
          have s100 := HL.old 100 (old_of' dl 100 (by decide))
          have s101 := HL.old 101 (old_of' dl 101 (by decide))
          have s102 := HL.old 102 (old_of' dl 102 (by decide))
          have s103 := HL.old 103 (old_of' dl 103 (by decide))
          have s104 := HL.old 104 (old_of' dl 104 (by decide))
          have s105 := HL.old 105 (old_of' dl 105 (by decide))
          have s106 := HL.old 106 (old_of' dl 106 (by decide))
          have s107 := HL.old 107 (old_of' dl 107 (by decide))
          have s108 := HL.old 108 (old_of' dl 108 (by decide))
          have s109 := HL.old 109 (old_of' dl 109 (by decide))
          have s110 := HL.old 110 (old_of' dl 110 (by decide))
          have s111 := HL.old 111 (old_of' dl 111 (by decide))
          have s112 := HL.old 112 (old_of' dl 112 (by decide))
          have s113 := HL.old 113 (old_of' dl 113 (by decide))
          have s114 := HL.old 114 (old_of' dl 114 (by decide))
          have s115 := HL.old 115 (old_of' dl 115 (by decide))
          have s116 := HL.old 116 (old_of' dl 116 (by decide))
          have s117 := HL.old 117 (old_of' dl 117 (by decide))
          have s118 := HL.old 118 (old_of' dl 118 (by decide))
          have s119 := HL.old 119 (old_of' dl 119 (by decide))
          have s120 := HL.old 120 (old_of' dl 120 (by decide))
          have s121 := HL.old 121 (old_of' dl 121 (by decide))
          have s122 := HL.old 122 (old_of' dl 122 (by decide))
          have s123 := HL.old 123 (old_of' dl 123 (by decide))
          have s124 := HL.old 124 (old_of' dl 124 (by decide))
          have s125 := HL.old 125 (old_of' dl 125 (by decide))
          have s126 := HL.old 126 (old_of' dl 126 (by decide))
          have s127 := HL.old 127 (old_of' dl 127 (by decide))
          have s128 := HL.old 128 (old_of' dl 128 (by decide))
          have s129 := HL.old 129 (old_of' dl 129 (by decide))
          have s130 := HL.old 130 (old_of' dl 130 (by decide))
          have s131 := HL.old 131 (old_of' dl 131 (by decide))
          have s132 := HL.old 132 (old_of' dl 132 (by decide))
          have s133 := HL.old 133 (old_of' dl 133 (by decide))
          have s134 := HL.old 134 (old_of' dl 134 (by decide))
          have s135 := HL.old 135 (old_of' dl 135 (by decide))
          have s136 := HL.old 136 (old_of' dl 136 (by decide))
          obtain ⟨f, hf, rfl⟩ := actlitf 137 a (HL.frame.trans (by simp)) (HL.defers.trans rfl)
          rw [show List.range 137 = [0, 1, 2, 3, 4, 5, 6, 7, 8, 9, 10, 11, 12, 13, 14, 15, 16, 17, 18, 19, 20, 21, 22, 23, 24, 25, 26, 27, 28, 29, 30, 31, 32, 33, 34, 35, 36, 37, 38, 39, 40, 41, 42, 43, 44, 45, 46, 47, 48, 49, 50, 51, 52, 53, 54, 55, 56, 57, 58, 59, 60, 61, 62, 63, 64, 65, 66, 67, 68, 69, 70, 71, 72, 73, 74, 75, 76, 77, 78, 79, 80, 81, 82, 83, 84, 85, 86, 87, 88, 89, 90, 91, 92, 93, 94, 95, 96, 97, 98, 99, 100, 101, 102, 103, 104, 105, 106, 107, 108, 109, 110, 111, 112, 113, 114, 115, 116, 117, 118, 119, 120, 121, 122, 123, 124, 125, 126, 127, 128, 129, 130, 131, 132, 133, 134, 135, 136] from rfl]
          simp only [List.map_cons, List.map_nil]
          have q0 : f 0 = .int .u8 dm := (hf 0).symm.trans s0
          have q1 : f 1 = .int .u8 bt := (hf 1).symm.trans s1
          have q2 : f 2 = .int .i16 lz := (hf 2).symm.trans s2
          have q3 : f 3 = undef := (hf 3).symm.trans s3
          have q4 : f 4 = undef := (hf 4).symm.trans s4
          have q5 : f 5 = undef := (hf 5).symm.trans s5
          have q6 : f 6 = .bool false := (hf 6).symm.trans s6
          have q7 : f 7 = .int .i64 n := (hf 7).symm.trans s7
          have q8 : f 8 = .int .i64 k := (hf 8).symm.trans s8
          have q9 : f 9 = .pointer (some ⟨w.heap.size, 0, none⟩) := (hf 9).symm.trans s9
          have q10 : f 10 = .int .i64 j := (hf 10).symm.trans s10
          have q11 : f 11 = undef := (hf 11).symm.trans s11
          have q12 : f 12 = undef := (hf 12).symm.trans s12
          have q13 : f 13 = undef := (hf 13).symm.trans s13
          have q14 : f 14 = undef := (hf 14).symm.trans s14
          have q15 : f 15 = undef := (hf 15).symm.trans s15
          have q16 : f 16 = .int .u8 dm := (hf 16).symm.trans s16
          have q17 : f 17 = .int .u8 ((n : Int) - 1) := (hf 17).symm.trans s17
          have q18 : f 18 = .int .i64 ((n : Int) - 1) := (hf 18).symm.trans s18
          have q19 : f 19 = .int .i64 n := (hf 19).symm.trans s19
          have q20 : f 20 = .int .u8 bt := (hf 20).symm.trans s20
          have q21 : f 21 = .int .u8 k := (hf 21).symm.trans s21
          have q22 : f 22 = .int .i64 k := (hf 22).symm.trans s22
          have q23 : f 23 = .int .i64 n := (hf 23).symm.trans s23
          have q24 : f 24 = .int .i64 k := (hf 24).symm.trans s24
          have q25 : f 25 = .int .i64 ((n : Int) * (k : Int)) := (hf 25).symm.trans s25
          have q26 : f 26 = .bool (decide ((10 : Int) < (n : Int) * (k : Int))) := (hf 26).symm.trans s26
          have q27 : f 27 = undef := (hf 27).symm.trans s27
          have q55 : f 55 = undef := (hf 55).symm.trans s55
          have q56 : f 56 = undef := (hf 56).symm.trans s56
          have q57 : f 57 = undef := (hf 57).symm.trans s57
          have q58 : f 58 = undef := (hf 58).symm.trans s58
          have q59 : f 59 = undef := (hf 59).symm.trans s59
          have q60 : f 60 = undef := (hf 60).symm.trans s60
          have q61 : f 61 = undef := (hf 61).symm.trans s61
          have q62 : f 62 = undef := (hf 62).symm.trans s62
          have q63 : f 63 = undef := (hf 63).symm.trans s63
          have q64 : f 64 = undef := (hf 64).symm.trans s64
          have q65 : f 65 = undef := (hf 65).symm.trans s65
          have q66 : f 66 = undef := (hf 66).symm.trans s66
          have q67 : f 67 = undef := (hf 67).symm.trans s67
          have q68 : f 68 = undef := (hf 68).symm.trans s68
          have q69 : f 69 = undef := (hf 69).symm.trans s69
          have q70 : f 70 = undef := (hf 70).symm.trans s70
          have q71 : f 71 = undef := (hf 71).symm.trans s71
          have q72 : f 72 = undef := (hf 72).symm.trans s72
          have q73 : f 73 = undef := (hf 73).symm.trans s73
          have q74 : f 74 = undef := (hf 74).symm.trans s74
          have q75 : f 75 = undef := (hf 75).symm.trans s75
          have q76 : f 76 = undef := (hf 76).symm.trans s76
          have q77 : f 77 = undef := (hf 77).symm.trans s77
          have q78 : f 78 = undef := (hf 78).symm.trans s78
          have q79 : f 79 = undef := (hf 79).symm.trans s79
          have q80 : f 80 = undef := (hf 80).symm.trans s80
          have q81 : f 81 = undef := (hf 81).symm.trans s81
          have q82 : f 82 = undef := (hf 82).symm.trans s82
          have q83 : f 83 = undef := (hf 83).symm.trans s83
          have q84 : f 84 = undef := (hf 84).symm.trans s84
          have q85 : f 85 = undef := (hf 85).symm.trans s85
          have q86 : f 86 = undef := (hf 86).symm.trans s86
          have q87 : f 87 = undef := (hf 87).symm.trans s87
          have q88 : f 88 = undef := (hf 88).symm.trans s88
          have q89 : f 89 = undef := (hf 89).symm.trans s89
          have q90 : f 90 = undef := (hf 90).symm.trans s90
          have q91 : f 91 = undef := (hf 91).symm.trans s91
          have q92 : f 92 = undef := (hf 92).symm.trans s92
          have q93 : f 93 = undef := (hf 93).symm.trans s93
          have q94 : f 94 = undef := (hf 94).symm.trans s94
          have q95 : f 95 = undef := (hf 95).symm.trans s95
          have q96 : f 96 = undef := (hf 96).symm.trans s96
          have q97 : f 97 = undef := (hf 97).symm.trans s97
          have q98 : f 98 = undef := (hf 98).symm.trans s98
          have q99 : f 99 = undef := (hf 99).symm.trans s99
          have q100 : f 100 = undef := (hf 100).symm.trans s100
          have q101 : f 101 = undef := (hf 101).symm.trans s101
          have q102 : f 102 = undef := (hf 102).symm.trans s102
          have q103 : f 103 = undef := (hf 103).symm.trans s103
          have q104 : f 104 = undef := (hf 104).symm.trans s104
          have q105 : f 105 = undef := (hf 105).symm.trans s105
          have q106 : f 106 = undef := (hf 106).symm.trans s106
          have q107 : f 107 = undef := (hf 107).symm.trans s107
          have q108 : f 108 = undef := (hf 108).symm.trans s108
          have q109 : f 109 = undef := (hf 109).symm.trans s109
          have q110 : f 110 = undef := (hf 110).symm.trans s110
          have q111 : f 111 = undef := (hf 111).symm.trans s111
          have q112 : f 112 = undef := (hf 112).symm.trans s112
          have q113 : f 113 = undef := (hf 113).symm.trans s113
          have q114 : f 114 = undef := (hf 114).symm.trans s114
          have q115 : f 115 = undef := (hf 115).symm.trans s115
          have q116 : f 116 = undef := (hf 116).symm.trans s116
          have q117 : f 117 = undef := (hf 117).symm.trans s117
          have q118 : f 118 = undef := (hf 118).symm.trans s118
          have q119 : f 119 = undef := (hf 119).symm.trans s119
          have q120 : f 120 = undef := (hf 120).symm.trans s120
          have q121 : f 121 = undef := (hf 121).symm.trans s121
          have q122 : f 122 = undef := (hf 122).symm.trans s122
          have q123 : f 123 = undef := (hf 123).symm.trans s123
          have q124 : f 124 = undef := (hf 124).symm.trans s124
          have q125 : f 125 = undef := (hf 125).symm.trans s125
          have q126 : f 126 = undef := (hf 126).symm.trans s126
          have q127 : f 127 = undef := (hf 127).symm.trans s127
          have q128 : f 128 = undef := (hf 128).symm.trans s128
          have q129 : f 129 = undef := (hf 129).symm.trans s129
          have q130 : f 130 = undef := (hf 130).symm.trans s130
          have q131 : f 131 = undef := (hf 131).symm.trans s131
          have q132 : f 132 = undef := (hf 132).symm.trans s132
          have q133 : f 133 = undef := (hf 133).symm.trans s133
          have q134 : f 134 = undef := (hf 134).symm.trans s134
          have q135 : f 135 = undef := (hf 135).symm.trans s135
          have q136 : f 136 = undef := (hf 136).symm.trans s136
          have q43 : f 43 = .slice P2 j c2 := (hf 43).symm.trans e1
          have q52 : f 52 = .slice (some ⟨b, 0, none⟩) 1 1 := (hf 52).symm.trans e2
          rw [q0, q1, q2, q3, q4, q5, q6, q7, q8, q9, q10, q11, q12, q13, q14, q15, q16, q17, q18, q19, q20, q21, q22, q23, q24, q25, q26, q27, q55, q56, q57, q58, q59, q60, q61, q62, q63, q64, q65, q66, q67, q68, q69, q70, q71, q72, q73, q74, q75, q76, q77, q78, q79, q80, q81, q82, q83, q84, q85, q86, q87, q88, q89, q90, q91, q92, q93, q94, q95, q96, q97, q98, q99, q100, q101, q102, q103, q104, q105, q106, q107, q108, q109, q110, q111, q112, q113, q114, q115, q116, q117, q118, q119, q120, q121, q122, q123, q124, q125, q126, q127, q128, q129, q130, q131, q132, q133, q134, q135, q136, q43, q52]
          have hb0 := HL.below
          have hin := HIn8.out.below hb0
          clear e1 e2 s0 s1 s2 s3 s4 s5 s6 s7 s8 s9 s10 s11 s12 s13 s14 s15 s16 s17 s18 s19 s20 s21 s22 s23 s24 s25 s26 s27 s55 s56 s57 s58 s59 s60 s61 s62 s63 s64 s65 s66 s67 s68 s69 s70 s71 s72 s73 s74 s75 s76 s77 s78 s79 s80 s81 s82 s83 s84 s85 s86 s87 s88 s89 s90 s91 s92 s93 s94 s95 s96 s97 s98 s99 s100 s101 s102 s103 s104 s105 s106 s107 s108 s109 s110 s111 s112 s113 s114 s115 s116 s117 s118 s119 s120 s121 s122 s123 s124 s125 s126 s127 s128 s129 s130 s131 s132 s133 s134 s135 s136 q0 q1 q2 q3 q4 q5 q6 q7 q8 q9 q10 q11 q12 q13 q14 q15 q16 q17 q18 q19 q20 q21 q22 q23 q24 q25 q26 q27 q55 q56 q57 q58 q59 q60 q61 q62 q63 q64 q65 q66 q67 q68 q69 q70 q71 q72 q73 q74 q75 q76 q77 q78 q79 q80 q81 q82 q83 q84 q85 q86 q87 q88 q89 q90 q91 q92 q93 q94 q95 q96 q97 q98 q99 q100 q101 q102 q103 q104 q105 q106 q107 q108 q109 q110 q111 q112 q113 q114 q115 q116 q117 q118 q119 q120 q121 q122 q123 q124 q125 q126 q127 q128 q129 q130 q131 q132 q133 q134 q135 q136 q43 q52 hf dl hall HL
          refine wpList_appJ rfl (.tmp 43) (.tmp 52) rfl W (lz - j + (2 ^ k - 1 : Nat)) (w.heap.size + 1) (.slice P2 j c2) j _ rfl b rfl f2 hin.2.2.1 (by omega) (by have := (Array.getElem?_eq_some_iff.1 hin.1).1; omega) ?_
          intro v' w2 hown hgr hat
          obtain ⟨hbx, hin2, hBo⟩ := hin.app2 hown hgr hat
          obtain ⟨A', cp', rfl, -⟩ := hown.ints
          have HIn2 := Lib.hid hin2
          have HBo2 : Hid (Below w.heap.size w3 _) := (hb0.mono (by omega)).trans hBo
          obtain ⟨t0, t1, u0, u1⟩ := box_gen hbx
          clear hin hin2 hbx hgr hat hown f1 f2 hb0 hBo
          go_wp2_with fail
          clear t0 t1 u0 u1
          go_roundw
          case rel => exact ⟨j + 1, _, _, by omega, by go_num, ⟨HIn2.out.1, HIn2.out.2.1.congr fun i _ => (by unfold updZ; split <;> simp [*]), HIn2.out.2.2.1.congr fun i _ => (by unfold updZ; split <;> simp [*]), HIn2.out.2.2.2⟩, HB3.out.trans (HBo2.out.mono (Nat.le_refl _))⟩
          case measure => simp [intOf]; omega
      · obtain rfl : j = n := by omega
        obtain ⟨P1, c1, rfl, hP1⟩ := HIn.out.2.1.ints
        obtain ⟨P2, c2, rfl, hP2⟩ := HIn.out.2.2.1.ints
        obtain ⟨S, hS0, hS1, hS2, hSq⟩ := l_hseq j k lz hn1 hn4 hk6 HP.out hlz
        have HS0 := Lib.hid hS0
        have HS1 := Lib.hid hS1
        have HS2 := Lib.hid hS2
        have HSeq : Hid (∀ W, Below wr.heap.size wr W → Calls Tryz.prog 5 #[LayV none 0 0 none 0 0 2 0 0 0, BoxW P1 P2 j c1 j c2] W fun e' w' => ∃ b, e' = .returned (.tuple #[.slice (some ⟨b, 0, none⟩) (2 ^ (j * k)) (2 ^ (j * k)), .int .i64 0]) ∧ ListsAt w' (some ⟨b, 0, none⟩) (2 ^ (j * k)) (fun _ => j) S ∧ Below W.heap.size W w') := fun W hW => hSq W P1 P2 c1 c2 (hP1.below hW) (hP2.below hW)
        have HL1 := Lib.hid hP1
        clear hS0 hS1 hS2 hSq hP1 hP2
        have hjk : IntKind.i64.wrap ((j : Int) * (k : Int)) = ((j * k : Nat) : Int) := by
          have h9 := HP.out
          rw [← Int.natCast_mul]
          generalize j * k = q at *
          exact w64 (by omega) (by omega)
        obtain ⟨N, hN⟩ : ∃ N, 2 ^ (j * k) = N := ⟨_, rfl⟩
        have HN : Hid (2 ^ (j * k) = N) := Lib.hid hN
        have hN1 : 1 ≤ N := by rw [← hN]; exact Nat.two_pow_pos _
        have hN9 : N ≤ 1024 := by rw [← hN]; exact Nat.pow_le_pow_right (n := 2) (by decide) HP.out
        rw [hN] at HSeq
        clear hN
        go_wp2_with (first
          | (go_at_call 5; refine (HSeq.out _ (Below.refl _ _)).mono ?_; rintro e w1 ⟨b, rfl, hL, hb1⟩; have HL := Lib.hid hL; have HBw1 := Lib.hid hb1; clear hL hb1; have hbx1 := (HBw1.out.block _ hobr).trans HIn.out.1; clear t0 t1 u0 u1; obtain ⟨t0, t1, u0, u1⟩ := box_gen hbx1))
        have HBX : Hid (∀ W, Below w1.heap.size w1 W → W.cell? ⟨w.heap.size, 0, none⟩ = some (.slice P1 j c1)) := fun W hW => (box_gen ((hW.block _ (Nat.lt_of_lt_of_le hobr HBw1.out.size)).trans hbx1)).1
        obtain ⟨b', o', e1, hbl, hrows⟩ := HL.out hN1
        obtain ⟨rfl, rfl⟩ : b = b' ∧ 0 = o' := by
          injection e1 with e1
          injection e1 with e1 e2
          exact ⟨e1, e2⟩
        clear e1
        have HRow : Hid (∀ W, Below w1.heap.size w1 W → ∀ t, t < N → ∃ P c, W.cell? ⟨b, t, none⟩ = some (.slice P j c) ∧ IntsAt W P j (S t)) := fun W hW t ht => by
          obtain ⟨P, c, g1, g2, _⟩ := hrows t ht
          rw [Nat.zero_add] at g1
          exact ⟨P, c, (hW.cell (p := ⟨b, t, none⟩) hbl).trans g1, g2.below hW⟩
        clear hrows
        obtain ⟨Q0, q0, hc0, hI0⟩ := HRow.out w1 (Below.refl _ _) 0 hN1
        have HS : Hid (∀ W, Below w1.heap.size w1 W → W.cell? ⟨b, 0, none⟩ = some (.slice Q0 j q0) ∧ W.cell? ⟨w.heap.size, 0, none⟩ = some (.slice P1 j c1)) := fun W hW => ⟨(hW.cell (p := ⟨b, 0, none⟩) hbl).trans hc0, HBX.out W hW⟩
        have HEq : Hid (∀ W, Below w1.heap.size w1 W → Calls Tryz.prog 6 #[.slice Q0 j q0, .slice P1 j c1] W fun e w' => e = .returned (.bool true) ∧ Below W.heap.size W w') := fun W hW => by
          have h9 := l_equal2 W Q0 P1 j q0 j c1 (S 0) (fun j => lz - (j : Int)) (hI0.below hW) ((HL1.out.below HBw1.out).below hW) (by omega) (by omega)
          have h8 : sameZ j j (S 0) (fun j => lz - (j : Int)) = true := by
            rw [sameZ, beq_self_eq_true, Bool.true_and, eqTo_iff]
            exact fun i hi => HS0.out i hi
          rw [h8] at h9
          exact h9
        clear hI0
        have hsh : IntKind.i64.wrap ((2 : Int) ^ (j * k)) = (N : Int) := by
          have h9 := HP.out
          rw [← HN.out]
          generalize j * k = q at *
          rcases (by omega : q = 0 ∨ q = 1 ∨ q = 2 ∨ q = 3 ∨ q = 4 ∨ q = 5 ∨ q = 6 ∨ q = 7 ∨ q = 8 ∨ q = 9 ∨ q = 10) with rfl | rfl | rfl | rfl | rfl | rfl | rfl | rfl | rfl | rfl | rfl <;> rfl
        have hs0 : (0 : Int) ≤ (j : Int) * (k : Int) := by rw [← Int.natCast_mul]; omega
        have hsl : ((j : Int) * (k : Int)).toNat = j * k := by rw [← Int.natCast_mul]; exact Int.toNat_natCast _
        have hN0 : (0 : Int) < (N : Int) := by omega
        have hN0n : 0 < N := hN1
        have hN1' : (1 : Int) ≤ (N : Int) := by omega
        have hj0 : (0 : Int) ≤ (j : Int) := by omega
        have st : ∀ {A B : World}, Below w1.heap.size w1 A → Below A.heap.size A B → Below w1.heap.size w1 B := fun h h2 => h.trans (h2.mono h.size)
        have B0d : Below w1.heap.size w1 w1.drew := drewB (Below.refl _ _) 1
        go_region_held3 (fun W => W.cell? ⟨b, 0, none⟩ = some (.slice Q0 j q0) ∧ W.cell? ⟨w.heap.size, 0, none⟩ = some (.slice P1 j c1))
          (first | exact HS.out _ B1 | exact HS.out _ B0d | exact HS.out _ (Below.refl _ _) | exact HS.out w1 (Below.refl _ _) | exact HS.out _ (drewB (Below.refl _ _) 1))
          (first
            | (go_at_call 6; refine (HEq.out _ B0d).mono ?_; rintro e w2 ⟨rfl, hb2⟩; have B1 : Below w1.heap.size w1 w2 := st B0d hb2))
        all_goals
          have HB2 : Hid (Below w1.heap.size w1 w2) := Lib.hid B1
          have HRw2 : Hid (∀ W, Below w2.heap.size w2 W → ∀ t, t < N → ∃ P c, W.cell? ⟨b, t, none⟩ = some (.slice P j c) ∧ IntsAt W P j (S t)) := fun W hW => HRow.out W (B1.trans (hW.mono B1.size))
          have HBw2 : Hid (Below w.heap.size w w2) := HBr.out.trans (((HBw1.out.mono HBr.out.size).trans (B1.mono (Nat.le_trans HBr.out.size HBw1.out.size))))
          clear HS HEq HSeq HBX HIn HL1 HRow hc0 hsh hs0 hsl B0d B1 hb2 t0 t1 u0 u1 hjk
          go_wp2_with fail
          go_loopw [13, 14, 15] (fun i _ _ wr => ∃ t : Nat, t + 1 ≤ N ∧ i = .int .i64 ((t : Int) + 1) ∧ Hid (Below w2.heap.size w2 wr)) (fun i _ _ _ => N - (intOf i).toNat)
          case atStart => exact ⟨0, hN1, rfl, Below.refl _ _⟩
          case round =>
            obtain ⟨t, htN, rfl, HBt⟩ := hrel
            by_cases hlt : t + 1 < N
            · have hlt2 : (t : Int) + 1 < (N : Int) := by omega
              have h9w : IntKind.i64.wrap ((t : Int) + 1 + 1) = (t : Int) + 1 + 1 := w64 (by omega) (by omega)
              have h8w : IntKind.i64.wrap (t : Int) = (t : Int) := w64 (by omega) (by omega)
              have h8x : IntKind.i64.wrap ((t : Int) + 1 - 1) = (t : Int) := by rw [Int.add_sub_cancel]; exact h8w
              obtain ⟨Pa, ca, ha, hIa⟩ := HRw2.out wr HBt (t + 1) hlt
              obtain ⟨Pb, cb, hb, hIb⟩ := HRw2.out wr HBt t (by omega)
              obtain ⟨ba, oa, rfl, hba, hca⟩ := hIa (by omega)
              obtain ⟨bb, ob, rfl, hbb, hcb⟩ := hIb (by omega)
              have HCa : Hid (∀ W, Below wr.heap.size wr W → W.cell? ⟨b, t + 1, none⟩ = some (.slice (some ⟨ba, oa, none⟩) j ca) ∧ W.cell? ⟨b, t, none⟩ = some (.slice (some ⟨bb, ob, none⟩) j cb) ∧ ∀ i, i < j → W.cell? ⟨ba, oa + i, none⟩ = some (.int .i64 (S (t + 1) i)) ∧ W.cell? ⟨bb, ob + i, none⟩ = some (.int .i64 (S t i))) := fun W hW => by
                have hbl2 : b < wr.heap.size := Nat.lt_of_lt_of_le hbl (Nat.le_trans HB2.out.size HBt.size)
                exact ⟨(hW.cell (p := ⟨b, t + 1, none⟩) hbl2).trans ha, (hW.cell (p := ⟨b, t, none⟩) hbl2).trans hb, fun i hi => ⟨(hW.cell (p := ⟨ba, oa + i, none⟩) hba).trans (hca i hi), (hW.cell (p := ⟨bb, ob + i, none⟩) hbb).trans (hcb i hi)⟩⟩
              have HSt : Hid (farZ (S (t + 1)) (S t) j = 1) := Lib.hid (by
                have h9 := HS1.out (t + 1) (by omega) (by rw [HN.out]; exact hlt)
                rwa [Nat.add_sub_cancel] at h9)
              have HBd : Hid (∀ i, i < j → (-1000000 ≤ S (t + 1) i ∧ S (t + 1) i ≤ 1000000) ∧ -1000000 ≤ S t i ∧ S t i ≤ 1000000) := Lib.hid fun i hi => ⟨HS2.out _ i hi, HS2.out _ i hi⟩
              have HBt' := Lib.hid HBt
              obtain ⟨f, hf⟩ : ∃ f, S (t + 1) = f := ⟨_, rfl⟩
              obtain ⟨g, hg⟩ : ∃ g, S t = g := ⟨_, rfl⟩
              rw [hf, hg] at HCa HSt HBd
              clear ha hb hIa hIb hba hca hbb hcb hf hg HBt
              obtain ⟨wo, rfl⟩ : ∃ wo, wo = wr := ⟨_, rfl⟩
              go_wp2_with fail
              go_loopw [14, 15] (fun v i wr => ∃ m : Nat, m ≤ j ∧ i = .int .i64 m ∧ v = .int .i64 (farZ f g m) ∧ Hid (Below wo.heap.size wo wr)) (fun _ i _ => j - (intOf i).toNat)
              case atStart => exact ⟨0, Nat.zero_le _, rfl, rfl, Below.refl _ _⟩
              case round =>
                obtain ⟨m, hm, rfl, rfl, HBm⟩ := hrel
                by_cases hlm : m < j
                · have hlm2 : (m : Int) < (j : Int) := by omega
                  obtain ⟨ca1, cb1, cab⟩ := HCa.out _ HBm
                  obtain ⟨ca2, cb2⟩ := cab m hlm
                  have hbd := HBd.out m hlm
                  have hfz := farZ_b (f := f) (g := g) (m := m) fun i hi => HBd.out i (by omega)
                  have hfz1 : farZ f g (m + 1) = farZ f g m + max (f m - g m) (g m - f m) := rfl
                  have w1' : IntKind.i64.wrap (f m - g m) = f m - g m := w64 (by omega) (by omega)
                  have w2' : IntKind.i64.wrap (g m - f m) = g m - f m := w64 (by omega) (by omega)
                  have hm0 : (0 : Int) ≤ (m : Int) := by omega
                  have w4' : IntKind.i64.wrap ((m : Int) + 1) = (m : Int) + 1 := w64 (by omega) (by omega)
                  have ht0 : (0 : Int) ≤ (t : Int) := by omega
                  have ht1 : (0 : Int) ≤ (t : Int) + 1 := by omega
                  have ht2 : (t : Int) < (N : Int) := by omega
                  have htt : ((t : Int) + 1).toNat = t + 1 := by omega
                  have htx : (t : Int) + 1 - 1 = (t : Int) := by omega
                  clear cab
                  go_wp2_with fail
                  generalize farZ f g m = z at *
                  generalize f m = x at *
                  generalize g m = y at *
                  have w5' : IntKind.i64.wrap (z + max (x - y) (y - x)) = z + max (x - y) (y - x) := by
                    rcases Int.le_total (x - y) (y - x) with hab | hab
                    · rw [Int.max_eq_right hab]; exact w64 (by omega) (by omega)
                    · rw [Int.max_eq_left hab]; exact w64 (by omega) (by omega)
                  go_quiet (fail)
                  rw [← hfz1]
                  go_wp2_with fail
                  go_roundw
                  case rel => exact ⟨m + 1, by omega, by go_num, rfl, drewB HBm.out _⟩
                  case measure => simp [intOf]; omega
                · have hlm2 : ¬ (m : Int) < (j : Int) := by omega
                  obtain rfl : m = j := by omega
                  have HSt2 := HSt.out
                  rw [HSt2]
                  go_wp2_with fail
                  exact ⟨⟨t + 1, by omega, by go_num, HBt'.out.trans (HBm.out.mono HBt'.out.size)⟩, by simp [intOf]; omega⟩
            · have hlt2 : ¬ (t : Int) + 1 < (N : Int) := by omega
              go_wp2_with fail
              have HBw3 : Below w.heap.size w wr := HBw2.out.trans (HBt.out.mono HBw2.out.size)
              refine (HW.out _ HBw3).mono ?_
              rintro e u ⟨rfl, hb⟩
              go_wp2
              go_ret
              exact ⟨rfl, HBw3.trans (hb.mono HBw3.size)⟩
  · have hq : 10 < wrap64 ((1 + ((n : Int) - 1)) * (k : Int)) := by rw [hnk]; omega
    go_enter Tryz.func3, Tryz.ntmps3
    go_wp2_with fail
    refine (HW.out _ (Below.refl _ _)).mono ?_
    rintro e u ⟨rfl, hb⟩
    go_wp2
    go_ret
    exact ⟨rfl, hb⟩
end Go.Proofs.YthddlbngjhkhhaaGreatDoor
