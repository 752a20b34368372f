/- The reference's Chunk, where there is no error. -/
import Derived.Test.YthmnmologmmeaaaGreatDoorZTwo
import Derived.Test.YthmnmologmmeaaaGreatDoorZOpX
import Derived.Test.YthmnmologmmeaaaGreatDoorZRfLa
import Derived.Test.YthmnmologmmeaaaGreatDoorZSch
import Derived.Test.YthmnmologmmeaaaGreatDoorZMathT
import Derived.Maps.AppendAt
import Derived.Test.YthmnmologmmeaaaGreatDoorShelf

/- The reference's Chunk, where there is no error. -/
section
namespace Go.Proofs.YthmnmologmmeaaaGreatDoor
open Go Go.RowKit Go.Deep

theorem old_end {ops : Array Oper} {a0 a : Act} {W0 w : World} {T : Nat → Value → World → Prop} {listed : Array Bool} (HL : Held ops a0 W0 T listed a w) {l : List (Option Nat)} (h : ops.toList.map (·.dst) = l) (t n : Nat) (ht : (l.take n).contains (some t) = false) (hn : l.length = n + 1) (hT : ∀ v w, ¬ T n v w) : ∀ i o, ops[i]? = some o → o.dst = some t → listed.getD i false = false := by
  intro i o e hd
  cases hb : listed.getD i false
  · rfl
  exfalso
  have hi : l[i]? = some (some t) := by rw [← h, List.getElem?_map, Array.getElem?_toList, e]; simp [hd]
  by_cases hin : i = n
  · subst hin
    exact hT _ _ (HL.got i o t e hd hb)
  · have hlt : i < l.length := (List.getElem?_eq_some_iff.1 hi).1
    have hm : some t ∈ l.take n := List.mem_of_getElem? (i := i) (by rw [List.getElem?_take_of_lt (by omega)]; exact hi)
    rw [← List.elem_iff] at hm
    rw [show (l.take n).elem (some t) = (l.take n).contains (some t) from rfl, ht] at hm
    cases hm
section
variable {ops : Array Oper} {Q : Exit → Act → World → Prop} {K : Act → World → Prop} {a : Act} {w : World}
set_option maxRecDepth 100000 in
theorem op_ixI {o : Oper} {d t i b off n c k : Nat} (ho : o.op = .indexAddr 35 (.tmp t) (.tmp i)) (hd : o.dst = some d) (hs : slot a t = .slice (some ⟨b, off, none⟩) n c) (hi : slot a i = .int .i64 (k : Int)) (hk : k < n) (h : K (putSlot a d (.pointer (some ⟨b, off + k, none⟩))) w) : o.wp Tryz.prog a w K Q := by
  obtain ⟨op, dst, ty, pos, after, guard⟩ := o
  dsimp only at ho hd
  subst ho hd
  have hs' : a.tmps[t]?.getD undef = .slice (some ⟨b, off, none⟩) n c := hs
  have hi' : a.tmps[i]?.getD undef = .int .i64 (k : Int) := hi
  have h0 : (0 : Int) ≤ (k : Int) := by omega
  have h1 : (k : Int) < (n : Int) := by omega
  unfold Oper.wp
  go_simp
  exact h
set_option maxRecDepth 100000 in
theorem op_fLy {o : Oper} {d t b : Nat} (ho : o.op = .fieldAddr 54 (.tmp t) 0) (hd : o.dst = some d) (hs : slot a t = .pointer (some ⟨b, 0, none⟩)) (h : K (putSlot a d (.pointer (some ⟨b, 0, none⟩))) w) : o.wp Tryz.prog a w K Q := by
  obtain ⟨op, dst, ty, pos, after, guard⟩ := o
  dsimp only at ho hd
  subst ho hd
  have hs' : a.tmps[t]?.getD undef = .pointer (some ⟨b, 0, none⟩) := hs
  unfold Oper.wp
  go_simp
  exact h
set_option maxRecDepth 100000 in
theorem op_sbC {o : Oper} {d t t2 : Nat} {x y : Int} (ho : o.op = .binOp .sub 3 (.tmp t) (.tmp t2) 3) (hd : o.dst = some d) (hs : slot a t = .int .i64 x) (hs2 : slot a t2 = .int .i64 y) (hx : -9223372036854775808 ≤ x - y ∧ x - y ≤ 9223372036854775807) (h : K (putSlot a d (.int .i64 (x - y))) w) : o.wp Tryz.prog a w K Q := by
  obtain ⟨op, dst, ty, pos, after, guard⟩ := o
  dsimp only at ho hd
  subst ho hd
  have hs' : a.tmps[t]?.getD undef = .int .i64 x := hs
  have hs2' : a.tmps[t2]?.getD undef = .int .i64 y := hs2
  have hw : IntKind.i64.wrap (x - y) = x - y := w64 (by omega) (by omega)
  unfold Oper.wp
  go_simp
  exact h
set_option maxRecDepth 100000 in
theorem op_qu {o : Oper} {d t t2 : Nat} {x y : Int} (ho : o.op = .binOp .quo 3 (.tmp t) (.tmp t2) 3) (hd : o.dst = some d) (hs : slot a t = .int .i64 x) (hs2 : slot a t2 = .int .i64 y) (hx : 0 ≤ x ∧ x ≤ 4294967296) (hy : 1 ≤ y ∧ y ≤ 64) (h : K (putSlot a d (.int .i64 (x / y))) w) : o.wp Tryz.prog a w K Q := by
  obtain ⟨op, dst, ty, pos, after, guard⟩ := o
  dsimp only at ho hd
  subst ho hd
  have hs' : a.tmps[t]?.getD undef = .int .i64 x := hs
  have hs2' : a.tmps[t2]?.getD undef = .int .i64 y := hs2
  have h1 : x.tdiv y = x / y := Int.tdiv_eq_ediv_of_nonneg hx.1
  have h2 : x / y ≤ x := Int.ediv_le_self _ hx.1
  have h3 : 0 ≤ x / y := Int.ediv_nonneg hx.1 (by omega)
  have hw : IntKind.i64.wrap (x / y) = x / y := w64 (by omega) (by omega)
  have hy0 : (y == 0) = false := by rw [beq_eq_false_iff_ne]; omega
  have hy1 : ¬ y = 0 := by omega
  clear h2 h3
  unfold Oper.wp
  go_simp
  exact h
end
set_option maxRecDepth 100000 in
set_option maxHeartbeats 8000000 in
theorem r_Chunk (w : World) (A S O X : Option Addr) (n cap s sc o oc m mc : Nat) (nm : Nat → ByteArray) (lo hi sd ov xs : Nat → Int) (ord tile form codec : Int) (hd : DimsAt w A n nm lo hi) (hs : IntsAt w S s sd) (ho : IntsAt w O o ov) (hx : IntsAt w X m xs) (hns : ∀ k, k < n → (nm k).size ≤ 9223372036854775807) (hs1 : s ≤ 1000) (ho1 : o ≤ 1000) (hn1 : n ≤ 1000) (hm1 : m ≤ 1000)
    (he : atE nm lo hi n sd ov s o ord tile form codec xs m = 0) :
    Calls Tryz.prog 21 #[.slice A n cap, LayV S s sc O o oc ord tile form codec, .slice X m mc] w fun e w' => ∃ P c, e = .returned (.tuple #[.slice P n c, .int .i64 0]) ∧ IntsAt w' P n (chZ lo sd xs) ∧ Below w.heap.size w w' := by
  have KB := Lib.hid (lay_box w S O s sc o oc ord tile form codec)
  have HB := Lib.hid (lay_row w S O s sc o oc ord tile form codec)
  have HL : Hid (∀ W, Below w.heap.size w W → Calls Tryz.prog 19 #[.slice A n cap, LayV S s sc O o oc ord tile form codec] W fun e w' => e = .returned (.int .i64 (layE nm lo hi n sd ov s o ord tile form codec)) ∧ Below W.heap.size W w') := fun W hW => r_Layout W A S O n cap s sc o oc nm lo hi sd ov ord tile form codec (hd.below hW) (hs.below hW) (ho.below hW) hns hn1 hs1 ho1
  have HP : Hid (∀ W, Below w.heap.size w W → Calls Tryz.prog 66 #[.slice A n cap, .slice X m mc] W fun e w' => e = .returned (.bool (ofB lo hi xs n m)) ∧ Below W.heap.size W w') := fun W hW => r_Of W A X n cap m mc nm lo hi xs (hd.below hW) (hx.below hW) hn1 hm1
  have HF := Lib.hid (at_facts he)
  have hz := at_zero he
  rw [hz.1] at HL
  rw [show ofB lo hi xs n m = true by rw [ofB, hz.2.1, beq_self_eq_true, Bool.true_and, ← hz.2.1]; exact hz.2.2] at HP
  obtain ⟨rfl, rfl, rfl, _, hn4, _⟩ := HF.out
  have HD := Lib.hid hd
  have HS := Lib.hid hs
  have HX := Lib.hid hx
  clear hd hs ho hx hns he hz
  go_enter Tryz.func21, Tryz.ntmps21
  go_wp2_with fail
  generalize w.alloc (.cells #[.slice S m sc, .slice O m oc, .int .i64 ord, .int .i64 tile, .int .i64 form, .int .i64 codec] 54) = W0 at *
  obtain ⟨l0, l1, l2, l3, l4, l5⟩ := KB.out W0 (Below.refl _ _)
  go_wp2_with fail
  refine (HL.out _ HB.out).mono ?_
  rintro e w1 ⟨rfl, hb1⟩
  have HB1 : Hid (Below w.heap.size w w1) := st HB.out hb1
  have HC1 : Hid (Below W0.heap.size W0 w1) := hb1
  clear hb1 HL l0 l1 l2 l3 l4 l5
  go_wp2_with (go_at_call 66; refine (HP.out _ HB1.out).mono ?_; rintro e w2 ⟨rfl, hb2⟩; have HB2 : Hid (Below w.heap.size w w2) := st HB1.out hb2; have HC2 : Hid (Below W0.heap.size W0 w2) := st HC1.out hb2)
  go_loopw [9, 10] (fun v i wr => ∃ k : Nat, k ≤ m ∧ i = .int .i64 k ∧ Hid (OwnI wr W0.heap.size v k (chZ lo sd xs)) ∧ Hid (Below W0.heap.size W0 wr)) (fun _ i _ => m - (intOf i).toNat)
  case atStart => exact ⟨0, Nat.zero_le _, rfl, OwnI.nil _ _ _, HC2.out⟩
  case round =>
    obtain ⟨k, hk, rfl, HOw, HBr⟩ := hrel
    by_cases hlt : k < m
    · obtain ⟨P1, c1, rfl, -⟩ := HOw.out.ints
      obtain ⟨bd, od, rfl, hbd, hcd⟩ := (HD.out.below (st HB.out HBr.out)) (by omega)
      obtain ⟨bs, os, rfl, hbs, hcs⟩ := (HS.out.below (st HB.out HBr.out)) (by omega)
      obtain ⟨bx, ox, rfl, hbx, hcx⟩ := (HX.out.below (st HB.out HBr.out)) (by omega)
      have hx1 := hcx k hlt
      have hs1 := hcs k hlt
      have hd1 := (hcd k hlt).2.1
      clear hcd hcs hcx
      obtain ⟨z, hz⟩ : ∃ z, xs k = z := ⟨_, rfl⟩
      obtain ⟨y, hy⟩ : ∃ y, lo k = y := ⟨_, rfl⟩
      obtain ⟨q, hq'⟩ : ∃ q, sd k = q := ⟨_, rfl⟩
      have HC : Hid (chZ lo sd xs k = (z - y) / q) := Lib.hid (by rw [chZ, hz, hy, hq'])
      have hf := HF.out.2.2.2.2.2 k hlt
      rw [hz, hy, hq'] at hf
      rw [hz] at hx1
      rw [hy] at hd1
      rw [hq'] at hs1
      have hzy : -9223372036854775808 ≤ z - y ∧ z - y ≤ 9223372036854775807 := by omega
      have hzy2 : 0 ≤ z - y ∧ z - y ≤ 4294967296 := by omega
      have hq : 1 ≤ q ∧ q ≤ 64 := by omega
      clear hz hy hq' hf
      have HKq : Hid (∀ W, Below wr.heap.size wr W → W.cell? ⟨bx, ox + k, none⟩ = some (.int .i64 z) ∧ W.cell? ⟨bd, od + k * 3 + 1, none⟩ = some (.int .i64 y) ∧ W.cell? ⟨w.heap.size, 0, none⟩ = some (.slice (some ⟨bs, os, none⟩) m sc) ∧ W.cell? ⟨bs, os + k, none⟩ = some (.int .i64 q)) := fun W hW => ⟨(hW.cell (p := ⟨bx, ox + k, none⟩) hbx).trans hx1, (hW.cell (p := ⟨bd, od + k * 3 + 1, none⟩) hbd).trans hd1, (KB.out W (st HBr.out hW)).1, (hW.cell (p := ⟨bs, os + k, none⟩) hbs).trans hs1⟩
      clear hx1 hs1 hd1
      go_wp2_with fail
      rename_i K2 hK2
      refine wp_region_TK (n1 := 18) (T := TL [isW (.slice P1 k c1), isW (.slice (some ⟨bx, ox, none⟩) m mc), isW (.int .i64 (k : Nat)), isW (.pointer (some ⟨bx, ox + k, none⟩)), isW (.int .i64 z), isW (.slice (some ⟨bd, od, none⟩) m cap), isW (.int .i64 (k : Nat)), isW (.pointer (some ⟨bd, od + k * 3, none⟩)), isW (.pointer (some ⟨bd, od + k * 3 + 1, none⟩)), isW (.int .i64 y), isW (.int .i64 (z - y)), isW (.pointer (some ⟨w.heap.size, 0, none⟩)), isW (.slice (some ⟨bs, os, none⟩) m sc), isW (.int .i64 (k : Nat)), isW (.pointer (some ⟨bs, os + k, none⟩)), isW (.int .i64 q), isW (.int .i64 ((z - y) / q)), OneI ((z - y) / q) wr.heap.size, (fun _ _ => True), (fun _ _ => False)]) (by kernel_rfl) (by decide) (by kernel_rfl) (by kernel_rfl) ?step ?tail
      case step =>
        intro listed a W i HL hi9 hilt
        have dl := HL.dl (l := [some 32, some 33, some 34, some 35, some 36, some 37, some 38, some 39, some 40, some 41, some 42, some 43, some 44, some 45, some 46, some 47, some 48, some 49, some 50, some 9]) rfl
        have ap := apart_of dl (by decide)
        obtain ⟨q1, q2, q3, q4⟩ := HKq.out W HL.below
        have hBW := HL.below.size
        have mono : ∀ p' ∈ [isW (.slice P1 k c1), isW (.slice (some ⟨bx, ox, none⟩) m mc), isW (.int .i64 (k : Nat)), isW (.pointer (some ⟨bx, ox + k, none⟩)), isW (.int .i64 z), isW (.slice (some ⟨bd, od, none⟩) m cap), isW (.int .i64 (k : Nat)), isW (.pointer (some ⟨bd, od + k * 3, none⟩)), isW (.pointer (some ⟨bd, od + k * 3 + 1, none⟩)), isW (.int .i64 y), isW (.int .i64 (z - y)), isW (.pointer (some ⟨w.heap.size, 0, none⟩)), isW (.slice (some ⟨bs, os, none⟩) m sc), isW (.int .i64 (k : Nat)), isW (.pointer (some ⟨bs, os + k, none⟩)), isW (.int .i64 q), isW (.int .i64 ((z - y) / q)), OneI ((z - y) / q) wr.heap.size, (fun _ _ => True), (fun _ _ => False)], Mono p' := by
          intro p' hp
          simp only [List.mem_cons, List.not_mem_nil, or_false] at hp
          rcases hp with rfl | rfl | rfl | rfl | rfl | rfl | rfl | rfl | rfl | rfl | rfl | rfl | rfl | rfl | rfl | rfl | rfl | rfl | rfl | rfl
          · exact isW_mono _
          · exact isW_mono _
          · exact isW_mono _
          · exact isW_mono _
          · exact isW_mono _
          · exact isW_mono _
          · exact isW_mono _
          · exact isW_mono _
          · exact isW_mono _
          · exact isW_mono _
          · exact isW_mono _
          · exact isW_mono _
          · exact isW_mono _
          · exact isW_mono _
          · exact isW_mono _
          · exact isW_mono _
          · exact isW_mono _
          · exact oneI_mono _ _
          · exact fun _ _ _ h _ => h
          · exact fun _ _ _ h _ => h
        rcases (by omega : i = 0 ∨ i = 1 ∨ i = 2 ∨ i = 3 ∨ i = 4 ∨ i = 5 ∨ i = 6 ∨ i = 7 ∨ i = 8 ∨ i = 9 ∨ i = 10 ∨ i = 11 ∨ i = 12 ∨ i = 13 ∨ i = 14 ∨ i = 15 ∨ i = 16 ∨ i = 17) with rfl | rfl | rfl | rfl | rfl | rfl | rfl | rfl | rfl | rfl | rfl | rfl | rfl | rfl | rfl | rfl | rfl | rfl
        · exact wpOp_of rfl (.inl rfl) (op_mv rfl rfl (HL.over mono ap rfl rfl (by simp) (Below.refl _ _) (HL.old 9 (old_end HL dl 9 19 (by decide) rfl (fun _ _ h => h)))))
        · exact wpOp_of rfl (.inl rfl) (op_mv rfl rfl (HL.over mono ap rfl rfl (by simp) (Below.refl _ _) (HL.old 2 (old_of' dl 2 (by decide)))))
        · exact wpOp_of rfl (.inl rfl) (op_mv rfl rfl (HL.over mono ap rfl rfl (by simp) (Below.refl _ _) (HL.old 10 (old_of' dl 10 (by decide)))))
        · exact wpOp_of rfl (.inl rfl) (op_ixI rfl rfl (HL.got' hi9 (j := 1) (t := 33) rfl (by kernel_rfl) rfl rfl) (HL.got' hi9 (j := 2) (t := 34) rfl (by kernel_rfl) rfl rfl) hlt (HL.over mono ap rfl rfl (by simp) (Below.refl _ _) rfl))
        · exact wpOp_of rfl (.inl rfl) (op_ldI rfl rfl (HL.got' hi9 (j := 3) (t := 35) rfl (by kernel_rfl) rfl rfl) q1 (HL.over mono ap rfl rfl (by simp) (Below.refl _ _) rfl))
        · exact wpOp_of rfl (.inl rfl) (op_mv rfl rfl (HL.over mono ap rfl rfl (by simp) (Below.refl _ _) (HL.old 0 (old_of' dl 0 (by decide)))))
        · exact wpOp_of rfl (.inl rfl) (op_mv rfl rfl (HL.over mono ap rfl rfl (by simp) (Below.refl _ _) (HL.old 10 (old_of' dl 10 (by decide)))))
        · exact wpOp_of rfl (.inl rfl) (op_ixD rfl rfl (HL.got' hi9 (j := 5) (t := 37) rfl (by kernel_rfl) rfl rfl) (HL.got' hi9 (j := 6) (t := 38) rfl (by kernel_rfl) rfl rfl) hlt (HL.over mono ap rfl rfl (by simp) (Below.refl _ _) rfl))
        · exact wpOp_of rfl (.inl rfl) (op_fD (by decide) rfl rfl (HL.got' hi9 (j := 7) (t := 39) rfl (by kernel_rfl) rfl rfl) (HL.over mono ap rfl rfl (by simp) (Below.refl _ _) rfl))
        · exact wpOp_of rfl (.inl rfl) (op_ldI rfl rfl (HL.got' hi9 (j := 8) (t := 40) rfl (by kernel_rfl) rfl rfl) q2 (HL.over mono ap rfl rfl (by simp) (Below.refl _ _) rfl))
        · exact wpOp_of rfl (.inl rfl) (op_sbC rfl rfl (HL.got' hi9 (j := 4) (t := 36) rfl (by kernel_rfl) rfl rfl) (HL.got' hi9 (j := 9) (t := 41) rfl (by kernel_rfl) rfl rfl) hzy (HL.over mono ap rfl rfl (by simp) (Below.refl _ _) rfl))
        · exact wpOp_of rfl (.inl rfl) (op_fLy rfl rfl (HL.old 4 (old_of' dl 4 (by decide))) (HL.over mono ap rfl rfl (by simp) (Below.refl _ _) rfl))
        · exact wpOp_of rfl (.inl rfl) (op_lsl (.inl rfl) rfl rfl (HL.got' hi9 (j := 11) (t := 43) rfl (by kernel_rfl) rfl rfl) q3 (HL.over mono ap rfl rfl (by simp) (Below.refl _ _) rfl))
        · exact wpOp_of rfl (.inl rfl) (op_mv rfl rfl (HL.over mono ap rfl rfl (by simp) (Below.refl _ _) (HL.old 10 (old_of' dl 10 (by decide)))))
        · exact wpOp_of rfl (.inl rfl) (op_ixI rfl rfl (HL.got' hi9 (j := 12) (t := 44) rfl (by kernel_rfl) rfl rfl) (HL.got' hi9 (j := 13) (t := 45) rfl (by kernel_rfl) rfl rfl) hlt (HL.over mono ap rfl rfl (by simp) (Below.refl _ _) rfl))
        · exact wpOp_of rfl (.inl rfl) (op_ldI rfl rfl (HL.got' hi9 (j := 14) (t := 46) rfl (by kernel_rfl) rfl rfl) q4 (HL.over mono ap rfl rfl (by simp) (Below.refl _ _) rfl))
        · exact wpOp_of rfl (.inl rfl) (op_qu rfl rfl (HL.got' hi9 (j := 10) (t := 42) rfl (by kernel_rfl) rfl rfl) (HL.got' hi9 (j := 15) (t := 47) rfl (by kernel_rfl) rfl rfl) hzy2 hq (HL.over mono ap rfl rfl (by simp) (Below.refl _ _) rfl))
        · exact wpOp_of rfl (.inl rfl) (op_bsI rfl rfl (HL.got' hi9 (j := 16) (t := 48) rfl (by kernel_rfl) rfl rfl) (HL.over mono ap rfl rfl (by simp) (bel_nw W _) ⟨_, rfl, hBW, heap_alloc_new W _⟩))
      case tail =>
        intro listed a W HL hall
        have e1 := HL.got 0 _ 32 rfl rfl (hall 0 (by decide))
        obtain ⟨b, e2, f1, f2⟩ := HL.got 17 _ 49 rfl rfl (hall 17 (by decide))
        have dl := HL.dl (l := [some 32, some 33, some 34, some 35, some 36, some 37, some 38, some 39, some 40, some 41, some 42, some 43, some 44, some 45, some 46, some 47, some 48, some 49, some 50, some 9]) rfl
        have s0 := HL.old 0 (old_of' dl 0 (by decide))
        have s1 := HL.old 1 (old_of' dl 1 (by decide))
        have s2 := HL.old 2 (old_of' dl 2 (by decide))
        have s3 := HL.old 3 (old_of' dl 3 (by decide))
        have s4 := HL.old 4 (old_of' dl 4 (by decide))
        have s5 := HL.old 5 (old_of' dl 5 (by decide))
        have s6 := HL.old 6 (old_of' dl 6 (by decide))
        have s7 := HL.old 7 (old_of' dl 7 (by decide))
        have s8 := HL.old 8 (old_of' dl 8 (by decide))
        have s10 := HL.old 10 (old_of' dl 10 (by decide))
        have s11 := HL.old 11 (old_of' dl 11 (by decide))
        have s12 := HL.old 12 (old_of' dl 12 (by decide))
        have s13 := HL.old 13 (old_of' dl 13 (by decide))
        have s14 := HL.old 14 (old_of' dl 14 (by decide))
        have s15 := HL.old 15 (old_of' dl 15 (by decide))
        have s16 := HL.old 16 (old_of' dl 16 (by decide))
        have s17 := HL.old 17 (old_of' dl 17 (by decide))
        have s18 := HL.old 18 (old_of' dl 18 (by decide))
        have s19 := HL.old 19 (old_of' dl 19 (by decide))
        have s20 := HL.old 20 (old_of' dl 20 (by decide))
        have s21 := HL.old 21 (old_of' dl 21 (by decide))
        have s22 := HL.old 22 (old_of' dl 22 (by decide))
        have s23 := HL.old 23 (old_of' dl 23 (by decide))
        have s24 := HL.old 24 (old_of' dl 24 (by decide))
        have s25 := HL.old 25 (old_of' dl 25 (by decide))
        have s51 := HL.old 51 (old_of' dl 51 (by decide))
        obtain ⟨f, hf, rfl⟩ := actlitf 52 a (HL.frame.trans (by simp)) (HL.defers.trans rfl)
        rw [show List.range 52 = [0, 1, 2, 3, 4, 5, 6, 7, 8, 9, 10, 11, 12, 13, 14, 15, 16, 17, 18, 19, 20, 21, 22, 23, 24, 25, 26, 27, 28, 29, 30, 31, 32, 33, 34, 35, 36, 37, 38, 39, 40, 41, 42, 43, 44, 45, 46, 47, 48, 49, 50, 51] from rfl]
        simp only [List.map_cons, List.map_nil]
        have q0 : f 0 = .slice (some ⟨bd, od, none⟩) m cap := (hf 0).symm.trans s0
        have q1 : f 1 = LayV (some ⟨bs, os, none⟩) m sc O m oc ord tile form codec := (hf 1).symm.trans s1
        have q2 : f 2 = .slice (some ⟨bx, ox, none⟩) m mc := (hf 2).symm.trans s2
        have q3 : f 3 = undef := (hf 3).symm.trans s3
        have q4 : f 4 = .pointer (some ⟨w.heap.size, 0, none⟩) := (hf 4).symm.trans s4
        have q5 : f 5 = undef := (hf 5).symm.trans s5
        have q6 : f 6 = .slice none 0 0 := (hf 6).symm.trans s6
        have q7 : f 7 = .int .i64 0 := (hf 7).symm.trans s7
        have q8 : f 8 = .int .i64 0 := (hf 8).symm.trans s8
        have q10 : f 10 = .int .i64 k := (hf 10).symm.trans s10
        have q11 : f 11 = .slice (some ⟨bd, od, none⟩) m cap := (hf 11).symm.trans s11
        have q12 : f 12 = .agg #[.slice (some ⟨bs, os, none⟩) m sc, .slice O m oc, .int .i64 ord, .int .i64 tile, .int .i64 form, .int .i64 codec] := (hf 12).symm.trans s12
        have q13 : f 13 = .int .i64 0 := (hf 13).symm.trans s13
        have q14 : f 14 = .int .i64 0 := (hf 14).symm.trans s14
        have q15 : f 15 = .bool false := (hf 15).symm.trans s15
        have q16 : f 16 = undef := (hf 16).symm.trans s16
        have q17 : f 17 = .slice (some ⟨bx, ox, none⟩) m mc := (hf 17).symm.trans s17
        have q18 : f 18 = .int .i64 m := (hf 18).symm.trans s18
        have q19 : f 19 = .slice (some ⟨bd, od, none⟩) m cap := (hf 19).symm.trans s19
        have q20 : f 20 = .int .i64 m := (hf 20).symm.trans s20
        have q21 : f 21 = .bool false := (hf 21).symm.trans s21
        have q22 : f 22 = .slice (some ⟨bd, od, none⟩) m cap := (hf 22).symm.trans s22
        have q23 : f 23 = .slice (some ⟨bx, ox, none⟩) m mc := (hf 23).symm.trans s23
        have q24 : f 24 = .bool true := (hf 24).symm.trans s24
        have q25 : f 25 = .bool false := (hf 25).symm.trans s25
        have q51 : f 51 = undef := (hf 51).symm.trans s51
        have q32 : f 32 = .slice P1 k c1 := (hf 32).symm.trans e1
        have q49 : f 49 = .slice (some ⟨b, 0, none⟩) 1 1 := (hf 49).symm.trans e2
        rw [q0, q1, q2, q3, q4, q5, q6, q7, q8, q10, q11, q12, q13, q14, q15, q16, q17, q18, q19, q20, q21, q22, q23, q24, q25, q51, q32, q49]
        have hb0 := HL.below
        have hin := HOw.out.below hb0
        have HBW : Hid (Below W0.heap.size W0 W) := st HBr.out hb0
        clear e1 e2 s0 s1 s2 s3 s4 s5 s6 s7 s8 s10 s11 s12 s13 s14 s15 s16 s17 s18 s19 s20 s21 s22 s23 s24 s25 s51 q0 q1 q2 q3 q4 q5 q6 q7 q8 q10 q11 q12 q13 q14 q15 q16 q17 q18 q19 q20 q21 q22 q23 q24 q25 q51 q32 q49 hf dl hall HL
        refine wpList_appJ rfl (.tmp 32) (.tmp 49) rfl W ((z - y) / q) W0.heap.size (.slice P1 k c1) k _ rfl b rfl f2 hin (by omega) HBW.out.size ?_
        intro v' w2 hown hgr hat
        have HB9 : Hid (Below W0.heap.size W0 w2) := below_own HBW.out HBW.out.size hin (Nat.le_refl _) hgr
        have HO9 : Hid (OwnI w2 W0.heap.size v' (k + 1) (chZ lo sd xs)) := hown.congr fun j hj => by
          unfold updZ
          split
          · rename_i e; rw [e, HC.out]
          · rfl
        clear hin hgr hat hown f1 f2 hb0
        go_wp2_with fail
        go_roundw
        case rel => exact ⟨k + 1, by omega, by go_num, HO9.out, HB9.out⟩
        case measure => simp [intOf]; omega
    · obtain rfl : k = m := by omega
      obtain ⟨P1, c1, rfl, hP1⟩ := HOw.out.ints
      go_wp2_with fail
      go_ret2
      exact ⟨_, _, rfl, hP1, st HB.out HBr.out⟩
end Go.Proofs.YthmnmologmmeaaaGreatDoor
end

/- Lists of dimensions, attributes and values compared: what is asked, and the reference. -/
section
namespace Go.Proofs.YthmnmologmmeaaaGreatDoor
open Go Go.RowKit Go.Deep

/-- Do the first k have it? -/
def allTo (p : Nat → Bool) : Nat → Bool
  | 0 => true
  | k + 1 => allTo p k && p k
theorem allTo_le {p : Nat → Bool} {k n : Nat} (h : allTo p k = false) (hn : k ≤ n) : allTo p n = false := by
  induction n with
  | zero => obtain rfl : k = 0 := by omega
            exact h
  | succ n ih =>
    by_cases e : k = n + 1
    · rw [← e]; exact h
    · rw [allTo, ih (by omega)]; rfl
theorem allTo_iff {p : Nat → Bool} {n : Nat} : allTo p n = true ↔ ∀ k, k < n → p k = true := by
  induction n with
  | zero => simp [allTo]
  | succ n ih =>
    rw [allTo, Bool.and_eq_true, ih]
    constructor
    · rintro ⟨h1, h2⟩ k hk
      by_cases e : k = n
      · rw [e]; exact h2
      · exact h1 k (by omega)
    · exact fun h => ⟨fun k hk => h k (by omega), h n (by omega)⟩
def dqQ (nm nm' : Nat → ByteArray) (lo lo' : Nat → Int) (hi hi' : Nat → Int) (k : Nat) : Bool := decide (nm k = nm' k) && (lo k == lo' k && (hi k == hi' k))
def sameD (n n' : Nat) (nm nm' : Nat → ByteArray) (lo lo' : Nat → Int) (hi hi' : Nat → Int) : Bool := n == n' && allTo (dqQ nm nm' lo lo' hi hi') n
def aqQ (an an' : Nat → ByteArray) (ty ty' : Nat → Int) (k : Nat) : Bool := decide (an k = an' k) && (ty k == ty' k)
def sameA (n n' : Nat) (an an' : Nat → ByteArray) (ty ty' : Nat → Int) : Bool := n == n' && allTo (aqQ an an' ty ty') n
def vqQ (vk vk' : Nat → Int) (vn vn' : Nat → Int) (vd vd' : Nat → Int) (vs vs' : Nat → ByteArray) (k : Nat) : Bool := vk k == vk' k && (vn k == vn' k && (vd k == vd' k && (decide (vs k = vs' k))))
def sameV (n n' : Nat) (vk vk' : Nat → Int) (vn vn' : Nat → Int) (vd vd' : Nat → Int) (vs vs' : Nat → ByteArray) : Bool := n == n' && allTo (vqQ vk vk' vn vn' vd vd' vs vs') n
set_option maxRecDepth 100000 in
set_option maxHeartbeats 2000000 in
theorem r_SameDims (w : World) (A B : Option Addr) (n c m d : Nat) (nm nm' : Nat → ByteArray) (lo lo' : Nat → Int) (hi hi' : Nat → Int) (ha : DimsAt w A n nm lo hi) (hb : DimsAt w B m nm' lo' hi') (hn : n ≤ 1000000) (hm : m ≤ 1000000) :
    Calls Tryz.prog 53 #[.slice A n c, .slice B m d] w fun e w' => e = .returned (.bool (sameD n m nm nm' lo lo' hi hi')) ∧ Below w.heap.size w w' := by
  have HA := Lib.hid ha
  have HB := Lib.hid hb
  obtain ⟨ve, hve⟩ : ∃ ve, sameD n m nm nm' lo lo' hi hi' = ve := ⟨_, rfl⟩
  rw [hve]
  have HV := Lib.hid hve
  clear ha hb hve
  by_cases h0 : n = m
  · subst h0
    have HE : Hid (ve = allTo (dqQ nm nm' lo lo' hi hi') n) := by show _ = _; rw [← HV.out, sameD, beq_self_eq_true, Bool.true_and]
    go_enter Tryz.func53, Tryz.ntmps53
    go_wp2
    go_loopw [5] (fun i wr => ∃ k : Nat, k ≤ n ∧ i = .int .i64 k ∧ Hid (allTo (dqQ nm nm' lo lo' hi hi') k = true) ∧ Hid (Below w.heap.size w wr)) (fun i _ => n - (intOf i).toNat)
    case atStart => exact ⟨0, Nat.zero_le _, rfl, rfl, Below.refl _ _⟩
    case round =>
      obtain ⟨k, hk, rfl, HK, HBw⟩ := hrel
      by_cases hlt : k < n
      · obtain ⟨b1, o1, rfl, _, hc1⟩ := (HA.out.below HBw.out) (by omega)
        obtain ⟨x0, x1, x2⟩ := hc1 k hlt
        obtain ⟨b2, o2, rfl, _, hc2⟩ := (HB.out.below HBw.out) (by omega)
        obtain ⟨y0, y1, y2⟩ := hc2 k hlt
        clear hc1 hc2
        have HS : Hid (allTo (dqQ nm nm' lo lo' hi hi') (k + 1) = (dqQ nm nm' lo lo' hi hi') k) := by show _ = _; rw [allTo, HK.out, Bool.true_and]
        have HD : Hid ((dqQ nm nm' lo lo' hi hi') k = (decide (nm k = nm' k) && (lo k == lo' k && (hi k == hi' k)))) := rfl
        have HL : Hid ((dqQ nm nm' lo lo' hi hi') k = false → ve = false) := fun h => by rw [HE.out]; exact allTo_le (k := k + 1) (by rw [HS.out, h]) (by omega)
        generalize nm k = nm9 at *
        generalize nm' k = nm8 at *
        generalize lo k = lo9 at *
        generalize lo' k = lo8 at *
        generalize hi k = hi9 at *
        generalize hi' k = hi8 at *
        by_cases g0 : nm9 = nm8
        · subst g0
          by_cases g1 : lo9 = lo8
          · subst g1
            by_cases g2 : hi9 = hi8
            · subst g2
              have HR : Hid (allTo (dqQ nm nm' lo lo' hi hi') (k + 1) = true) := by show _ = _; rw [HS.out, HD.out]; simp
              clear HS HD HL
              go_wp2
              go_quiet (fail)
              go_wp2
              go_roundw
              case rel => exact ⟨k + 1, by omega, by go_num, HR.out, drewB HBw.out _⟩
              case measure => simp [intOf]; omega
            · have HF : Hid (ve = false) := HL.out (by rw [HD.out]; simp [g2])
              clear HS HD HL
              go_wp2
              go_quiet (fail)
              go_wp2
              go_ret
              exact ⟨by rw [HF.out]; rfl, drewB HBw.out _⟩
          · have HF : Hid (ve = false) := HL.out (by rw [HD.out]; simp [g1])
            clear HS HD HL
            go_wp2
            go_quiet (fail)
            go_wp2
            go_ret
            exact ⟨by rw [HF.out]; rfl, drewB HBw.out _⟩
        · have HF : Hid (ve = false) := HL.out (by rw [HD.out]; simp [g0])
          have e0 : ¬ nm9.toList = nm8.toList := fun h => g0 (str_eq (by rw [h]; simp))
          clear HS HD HL
          go_wp2
          go_quiet (fail)
          go_wp2
          go_ret
          exact ⟨by rw [HF.out]; rfl, drewB HBw.out _⟩
      · obtain rfl : k = n := by omega
        go_wp2
        go_ret
        exact ⟨by rw [HE.out, HK.out]; rfl, HBw.out⟩
  · have HE : Hid (ve = false) := by show _ = _; rw [← HV.out, sameD, beq_false_of_ne h0, Bool.false_and]
    have h1 : ((n : Int) != (m : Int)) = true := by rw [bne_iff_ne]; omega
    go_enter Tryz.func53, Tryz.ntmps53
    go_wp2
    go_ret
    exact ⟨by rw [HE.out]; rfl, Below.refl _ _⟩
set_option maxRecDepth 100000 in
set_option maxHeartbeats 2000000 in
theorem r_SameAttrs (w : World) (A B : Option Addr) (n c m d : Nat) (an an' : Nat → ByteArray) (ty ty' : Nat → Int) (ha : AttrsAt w A n an ty) (hb : AttrsAt w B m an' ty') (hn : n ≤ 1000000) (hm : m ≤ 1000000) :
    Calls Tryz.prog 54 #[.slice A n c, .slice B m d] w fun e w' => e = .returned (.bool (sameA n m an an' ty ty')) ∧ Below w.heap.size w w' := by
  have HA := Lib.hid ha
  have HB := Lib.hid hb
  obtain ⟨ve, hve⟩ : ∃ ve, sameA n m an an' ty ty' = ve := ⟨_, rfl⟩
  rw [hve]
  have HV := Lib.hid hve
  clear ha hb hve
  by_cases h0 : n = m
  · subst h0
    have HE : Hid (ve = allTo (aqQ an an' ty ty') n) := by show _ = _; rw [← HV.out, sameA, beq_self_eq_true, Bool.true_and]
    go_enter Tryz.func54, Tryz.ntmps54
    go_wp2
    go_loopw [5] (fun i wr => ∃ k : Nat, k ≤ n ∧ i = .int .i64 k ∧ Hid (allTo (aqQ an an' ty ty') k = true) ∧ Hid (Below w.heap.size w wr)) (fun i _ => n - (intOf i).toNat)
    case atStart => exact ⟨0, Nat.zero_le _, rfl, rfl, Below.refl _ _⟩
    case round =>
      obtain ⟨k, hk, rfl, HK, HBw⟩ := hrel
      by_cases hlt : k < n
      · obtain ⟨b1, o1, rfl, _, hc1⟩ := (HA.out.below HBw.out) (by omega)
        obtain ⟨x0, x1⟩ := hc1 k hlt
        obtain ⟨b2, o2, rfl, _, hc2⟩ := (HB.out.below HBw.out) (by omega)
        obtain ⟨y0, y1⟩ := hc2 k hlt
        clear hc1 hc2
        have HS : Hid (allTo (aqQ an an' ty ty') (k + 1) = (aqQ an an' ty ty') k) := by show _ = _; rw [allTo, HK.out, Bool.true_and]
        have HD : Hid ((aqQ an an' ty ty') k = (decide (an k = an' k) && (ty k == ty' k))) := rfl
        have HL : Hid ((aqQ an an' ty ty') k = false → ve = false) := fun h => by rw [HE.out]; exact allTo_le (k := k + 1) (by rw [HS.out, h]) (by omega)
        generalize an k = an9 at *
        generalize an' k = an8 at *
        generalize ty k = ty9 at *
        generalize ty' k = ty8 at *
        by_cases g0 : an9 = an8
        · subst g0
          by_cases g1 : ty9 = ty8
          · subst g1
            have HR : Hid (allTo (aqQ an an' ty ty') (k + 1) = true) := by show _ = _; rw [HS.out, HD.out]; simp
            clear HS HD HL
            go_wp2
            go_quiet (fail)
            go_wp2
            go_roundw
            case rel => exact ⟨k + 1, by omega, by go_num, HR.out, drewB HBw.out _⟩
            case measure => simp [intOf]; omega
          · have HF : Hid (ve = false) := HL.out (by rw [HD.out]; simp [g1])
            clear HS HD HL
            go_wp2
            go_quiet (fail)
            go_wp2
            go_ret
            exact ⟨by rw [HF.out]; rfl, drewB HBw.out _⟩
        · have HF : Hid (ve = false) := HL.out (by rw [HD.out]; simp [g0])
          have e0 : ¬ an9.toList = an8.toList := fun h => g0 (str_eq (by rw [h]; simp))
          clear HS HD HL
          go_wp2
          go_quiet (fail)
          go_wp2
          go_ret
          exact ⟨by rw [HF.out]; rfl, drewB HBw.out _⟩
      · obtain rfl : k = n := by omega
        go_wp2
        go_ret
        exact ⟨by rw [HE.out, HK.out]; rfl, HBw.out⟩
  · have HE : Hid (ve = false) := by show _ = _; rw [← HV.out, sameA, beq_false_of_ne h0, Bool.false_and]
    have h1 : ((n : Int) != (m : Int)) = true := by rw [bne_iff_ne]; omega
    go_enter Tryz.func54, Tryz.ntmps54
    go_wp2
    go_ret
    exact ⟨by rw [HE.out]; rfl, Below.refl _ _⟩
set_option maxRecDepth 100000 in
set_option maxHeartbeats 2000000 in
theorem r_SameVals (w : World) (A B : Option Addr) (n c m d : Nat) (vk vk' : Nat → Int) (vn vn' : Nat → Int) (vd vd' : Nat → Int) (vs vs' : Nat → ByteArray) (ha : ValsAt w A n vk vn vd vs) (hb : ValsAt w B m vk' vn' vd' vs') (hn : n ≤ 1000000) (hm : m ≤ 1000000) :
    Calls Tryz.prog 106 #[.slice A n c, .slice B m d] w fun e w' => e = .returned (.bool (sameV n m vk vk' vn vn' vd vd' vs vs')) ∧ Below w.heap.size w w' := by
  have HA := Lib.hid ha
  have HB := Lib.hid hb
  obtain ⟨ve, hve⟩ : ∃ ve, sameV n m vk vk' vn vn' vd vd' vs vs' = ve := ⟨_, rfl⟩
  rw [hve]
  have HV := Lib.hid hve
  clear ha hb hve
  by_cases h0 : n = m
  · subst h0
    have HE : Hid (ve = allTo (vqQ vk vk' vn vn' vd vd' vs vs') n) := by show _ = _; rw [← HV.out, sameV, beq_self_eq_true, Bool.true_and]
    go_enter Tryz.func106, Tryz.ntmps106
    go_wp2
    go_loopw [5] (fun i wr => ∃ k : Nat, k ≤ n ∧ i = .int .i64 k ∧ Hid (allTo (vqQ vk vk' vn vn' vd vd' vs vs') k = true) ∧ Hid (Below w.heap.size w wr)) (fun i _ => n - (intOf i).toNat)
    case atStart => exact ⟨0, Nat.zero_le _, rfl, rfl, Below.refl _ _⟩
    case round =>
      obtain ⟨k, hk, rfl, HK, HBw⟩ := hrel
      by_cases hlt : k < n
      · obtain ⟨b1, o1, rfl, _, hc1⟩ := (HA.out.below HBw.out) (by omega)
        obtain ⟨x0, x1, x2, x3⟩ := hc1 k hlt
        obtain ⟨b2, o2, rfl, _, hc2⟩ := (HB.out.below HBw.out) (by omega)
        obtain ⟨y0, y1, y2, y3⟩ := hc2 k hlt
        clear hc1 hc2
        have HS : Hid (allTo (vqQ vk vk' vn vn' vd vd' vs vs') (k + 1) = (vqQ vk vk' vn vn' vd vd' vs vs') k) := by show _ = _; rw [allTo, HK.out, Bool.true_and]
        have HD : Hid ((vqQ vk vk' vn vn' vd vd' vs vs') k = (vk k == vk' k && (vn k == vn' k && (vd k == vd' k && (decide (vs k = vs' k)))))) := rfl
        have HL : Hid ((vqQ vk vk' vn vn' vd vd' vs vs') k = false → ve = false) := fun h => by rw [HE.out]; exact allTo_le (k := k + 1) (by rw [HS.out, h]) (by omega)
        generalize vk k = vk9 at *
        generalize vk' k = vk8 at *
        generalize vn k = vn9 at *
        generalize vn' k = vn8 at *
        generalize vd k = vd9 at *
        generalize vd' k = vd8 at *
        generalize vs k = vs9 at *
        generalize vs' k = vs8 at *
        by_cases g0 : vk9 = vk8
        · subst g0
          by_cases g1 : vn9 = vn8
          · subst g1
            by_cases g2 : vd9 = vd8
            · subst g2
              by_cases g3 : vs9 = vs8
              · subst g3
                have HR : Hid (allTo (vqQ vk vk' vn vn' vd vd' vs vs') (k + 1) = true) := by show _ = _; rw [HS.out, HD.out]; simp
                clear HS HD HL
                go_wp2
                go_quiet (fail)
                go_wp2
                go_roundw
                case rel => exact ⟨k + 1, by omega, by go_num, HR.out, drewB HBw.out _⟩
                case measure => simp [intOf]; omega
              · have HF : Hid (ve = false) := HL.out (by rw [HD.out]; simp [g3])
                have e3 : ¬ vs9.toList = vs8.toList := fun h => g3 (str_eq (by rw [h]; simp))
                clear HS HD HL
                go_wp2
                go_quiet (fail)
                go_wp2
                go_ret
                exact ⟨by rw [HF.out]; rfl, drewB HBw.out _⟩
            · have HF : Hid (ve = false) := HL.out (by rw [HD.out]; simp [g2])
              clear HS HD HL
              go_wp2
              go_quiet (fail)
              go_wp2
              go_ret
              exact ⟨by rw [HF.out]; rfl, drewB HBw.out _⟩
          · have HF : Hid (ve = false) := HL.out (by rw [HD.out]; simp [g1])
            clear HS HD HL
            go_wp2
            go_quiet (fail)
            go_wp2
            go_ret
            exact ⟨by rw [HF.out]; rfl, drewB HBw.out _⟩
        · have HF : Hid (ve = false) := HL.out (by rw [HD.out]; simp [g0])
          clear HS HD HL
          go_wp2
          go_quiet (fail)
          go_wp2
          go_ret
          exact ⟨by rw [HF.out]; rfl, drewB HBw.out _⟩
      · obtain rfl : k = n := by omega
        go_wp2
        go_ret
        exact ⟨by rw [HE.out, HK.out]; rfl, HBw.out⟩
  · have HE : Hid (ve = false) := by show _ = _; rw [← HV.out, sameV, beq_false_of_ne h0, Bool.false_and]
    have h1 : ((n : Int) != (m : Int)) = true := by rw [bne_iff_ne]; omega
    go_enter Tryz.func106, Tryz.ntmps106
    go_wp2
    go_ret
    exact ⟨by rw [HE.out]; rfl, Below.refl _ _⟩
end Go.Proofs.YthmnmologmmeaaaGreatDoor
end

/- Slices of structs copied: their cells in a row. -/
section
namespace Go.Proofs.YthmnmologmmeaaaGreatDoor
open Go Go.RowKit Go.Deep

/-- The cells of n structs of z cells each. -/
def rowL (f : Nat → Nat → Value) (z n : Nat) : List Value := (List.range (n * z)).map fun i => f (i / z) (i % z)
theorem rowL_len (f : Nat → Nat → Value) (z n : Nat) : (rowL f z n).length = n * z := by simp [rowL]
theorem rowL_get {f : Nat → Nat → Value} {z n j : Nat} {u : Value} (h : (rowL f z n)[j]? = some u) : j < n * z ∧ u = f (j / z) (j % z) := by
  obtain ⟨h1, h2⟩ := List.getElem?_eq_some_iff.1 h
  rw [rowL_len] at h1
  refine ⟨h1, ?_⟩
  rw [← h2]
  simp [rowL]
theorem rowL_one {f : Nat → Nat → Value} {z n : Nat} (hf : ∀ k r, (f k r).oneCell' = true) : ∀ u ∈ rowL f z n, u.oneCell' = true := by
  intro u hu
  obtain ⟨i, _, rfl⟩ := List.mem_map.1 hu
  exact hf _ _
/-- A slice that begins at the head of a block from B on. -/
def Up (B : Nat) (A : Option Addr) : Prop := ∀ a, A = some a → B ≤ a.block ∧ a.off = 0 ∧ a.spot = none
theorem Up.none (B : Nat) : Up B none := fun a h => by cases h
theorem Up.mono {B B' : Nat} {A : Option Addr} (h : Up B A) (hb : B' ≤ B) : Up B' A := fun a ha => ⟨Nat.le_trans hb (h a ha).1, (h a ha).2⟩
theorem row_own {w : World} {B e z n : Nat} {v : Value} {f : Nat → Nat → Value} (h : w.ownsRow B e z v n (rowL f z n)) :
    ∃ A cap, v = .slice A n cap ∧ Up B A ∧ (0 < n → ∃ b, A = some ⟨b, 0, none⟩ ∧ b < w.heap.size ∧ ∀ k r, k < n → r < z → w.cell? ⟨b, k * z + r, none⟩ = some (f k r)) := by
  rcases h.2 with ⟨rfl, rfl⟩ | ⟨g, cap, cur, rfl, hg, hh, hcap, _, hs, ht⟩
  · exact ⟨none, 0, rfl, Up.none _, fun h => absurd h (by omega)⟩
  · refine ⟨_, _, rfl, fun a ha => by injection ha with ha; subst ha; exact ⟨hg, rfl, rfl⟩, fun _ => ⟨g, rfl, (Array.getElem?_eq_some_iff.1 hh).1, fun k r hk hr => ?_⟩⟩
    have hj : k * z + r < n * z := by
      have : (k + 1) * z ≤ n * z := Nat.mul_le_mul_right _ hk
      rw [Nat.add_mul, Nat.one_mul] at this
      omega
    have h2 : cur.toList[k * z + r]? = some (f k r) := by
      rw [← List.getElem?_take_of_lt hj, ht]
      simp only [rowL, List.getElem?_map]
      rw [List.getElem?_range hj]
      have e1 : (k * z + r) / z = k := by rw [Nat.mul_comm, Nat.mul_add_div (by omega), Nat.div_eq_of_lt hr, Nat.add_zero]
      have e2 : (k * z + r) % z = r := by rw [Nat.mul_comm, Nat.mul_add_mod, Nat.mod_eq_of_lt hr]
      simp [e1, e2]
    rw [Array.getElem?_toList] at h2
    simp [World.cell?, hh, h2]
theorem div_row {z j n : Nat} (hz : 0 < z) (h : j < n * z) : j / z < n ∧ j % z < z ∧ j / z * z + j % z = j := by
  refine ⟨?_, Nat.mod_lt _ hz, by rw [Nat.mul_comm]; exact Nat.div_add_mod j z⟩
  exact Nat.div_lt_of_lt_mul (by rw [Nat.mul_comm]; exact h)
def intF (f : Nat → Int) (k _r : Nat) : Value := .int .i64 (f k)
def dimF (nm : Nat → ByteArray) (lo hi : Nat → Int) (k r : Nat) : Value := if r = 0 then .string (nm k) else if r = 1 then .int .i64 (lo k) else .int .i64 (hi k)
def attF (an : Nat → ByteArray) (ty : Nat → Int) (k r : Nat) : Value := if r = 0 then .string (an k) else .int .i64 (ty k)
def valF4 (vk vn vd : Nat → Int) (vs : Nat → ByteArray) (k r : Nat) : Value := if r = 0 then .int .i64 (vk k) else if r = 1 then .int .i64 (vn k) else if r = 2 then .int .i64 (vd k) else .string (vs k)
theorem intF_one (f : Nat → Int) (k r : Nat) : (intF f k r).oneCell' = true := rfl
theorem dimF_one (nm : Nat → ByteArray) (lo hi : Nat → Int) (k r : Nat) : (dimF nm lo hi k r).oneCell' = true := by
  unfold dimF
  split
  · rfl
  · split <;> rfl
theorem attF_one (an : Nat → ByteArray) (ty : Nat → Int) (k r : Nat) : (attF an ty k r).oneCell' = true := by unfold attF; split <;> rfl
theorem valF4_one (vk vn vd : Nat → Int) (vs : Nat → ByteArray) (k r : Nat) : (valF4 vk vn vd vs k r).oneCell' = true := by
  unfold valF4
  split
  · rfl
  · split
    · rfl
    · split <;> rfl
theorem r3 {r : Nat} (h : r < 3) : r = 0 ∨ r = 1 ∨ r = 2 := by omega
theorem r4 {r : Nat} (h : r < 4) : r = 0 ∨ r = 1 ∨ r = 2 ∨ r = 3 := by omega
/-- What the cells of a slice are, as a row. -/
def RowAt (w : World) (A : Option Addr) (n z : Nat) (f : Nat → Nat → Value) : Prop := 0 < n → ∃ b o, A = some ⟨b, o, none⟩ ∧ b < w.heap.size ∧ ∀ k r, k < n → r < z → w.cell? ⟨b, o + (k * z + r), none⟩ = some (f k r)
theorem RowAt.below {w w' : World} {A : Option Addr} {n z : Nat} {f : Nat → Nat → Value} (h : RowAt w A n z f) (hb : Below w.heap.size w w') : RowAt w' A n z f := fun hn => by
  obtain ⟨b, o, h1, h2, h3⟩ := h hn
  exact ⟨b, o, h1, Nat.lt_of_lt_of_le h2 hb.size, fun k r hk hr => (hb.cell (p := ⟨b, o + (k * z + r), none⟩) h2).trans (h3 k r hk hr)⟩
theorem IntsAt.row {w : World} {A : Option Addr} {n : Nat} {f : Nat → Int} (h : IntsAt w A n f) : RowAt w A n 1 (intF f) := fun hn => by
  obtain ⟨b, o, h1, h2, h3⟩ := h hn
  refine ⟨b, o, h1, h2, fun k r hk hr => ?_⟩
  obtain rfl : r = 0 := by omega
  rw [Nat.mul_one, Nat.add_zero]
  exact h3 k hk
theorem RowAt.ints {w : World} {A : Option Addr} {n : Nat} {f : Nat → Int} (h : RowAt w A n 1 (intF f)) : IntsAt w A n f := fun hn => by
  obtain ⟨b, o, h1, h2, h3⟩ := h hn
  refine ⟨b, o, h1, h2, fun k hk => ?_⟩
  have := h3 k 0 hk (by omega)
  rw [Nat.mul_one, Nat.add_zero] at this
  exact this
theorem DimsAt.row {w : World} {A : Option Addr} {n : Nat} {nm : Nat → ByteArray} {lo hi : Nat → Int} (h : DimsAt w A n nm lo hi) : RowAt w A n 3 (dimF nm lo hi) := fun hn => by
  obtain ⟨b, o, h1, h2, h3⟩ := h hn
  refine ⟨b, o, h1, h2, fun k r hk hr => ?_⟩
  obtain ⟨a0, a1, a2⟩ := h3 k hk
  rcases r3 hr with rfl | rfl | rfl
  · exact a0
  · exact a1
  · exact a2
theorem RowAt.dims {w : World} {A : Option Addr} {n : Nat} {nm : Nat → ByteArray} {lo hi : Nat → Int} (h : RowAt w A n 3 (dimF nm lo hi)) : DimsAt w A n nm lo hi := fun hn => by
  obtain ⟨b, o, h1, h2, h3⟩ := h hn
  exact ⟨b, o, h1, h2, fun k hk => ⟨h3 k 0 hk (by omega), h3 k 1 hk (by omega), h3 k 2 hk (by omega)⟩⟩
theorem AttrsAt.row {w : World} {A : Option Addr} {n : Nat} {an : Nat → ByteArray} {ty : Nat → Int} (h : AttrsAt w A n an ty) : RowAt w A n 2 (attF an ty) := fun hn => by
  obtain ⟨b, o, h1, h2, h3⟩ := h hn
  refine ⟨b, o, h1, h2, fun k r hk hr => ?_⟩
  obtain ⟨a0, a1⟩ := h3 k hk
  rcases (by omega : r = 0 ∨ r = 1) with rfl | rfl
  · exact a0
  · exact a1
theorem RowAt.attrs {w : World} {A : Option Addr} {n : Nat} {an : Nat → ByteArray} {ty : Nat → Int} (h : RowAt w A n 2 (attF an ty)) : AttrsAt w A n an ty := fun hn => by
  obtain ⟨b, o, h1, h2, h3⟩ := h hn
  exact ⟨b, o, h1, h2, fun k hk => ⟨h3 k 0 hk (by omega), h3 k 1 hk (by omega)⟩⟩
theorem ValsAt.row {w : World} {A : Option Addr} {n : Nat} {vk vn vd : Nat → Int} {vs : Nat → ByteArray} (h : ValsAt w A n vk vn vd vs) : RowAt w A n 4 (valF4 vk vn vd vs) := fun hn => by
  obtain ⟨b, o, h1, h2, h3⟩ := h hn
  refine ⟨b, o, h1, h2, fun k r hk hr => ?_⟩
  obtain ⟨a0, a1, a2, a3⟩ := h3 k hk
  rcases r4 hr with rfl | rfl | rfl | rfl
  · exact a0
  · exact a1
  · exact a2
  · exact a3
theorem RowAt.vals {w : World} {A : Option Addr} {n : Nat} {vk vn vd : Nat → Int} {vs : Nat → ByteArray} (h : RowAt w A n 4 (valF4 vk vn vd vs)) : ValsAt w A n vk vn vd vs := fun hn => by
  obtain ⟨b, o, h1, h2, h3⟩ := h hn
  exact ⟨b, o, h1, h2, fun k hk => ⟨h3 k 0 hk (by omega), h3 k 1 hk (by omega), h3 k 2 hk (by omega), h3 k 3 hk (by omega)⟩⟩
theorem RowAt.own {w : World} {B e z n : Nat} {v : Value} {f : Nat → Nat → Value} (h : w.ownsRow B e z v n (rowL f z n)) : ∃ A cap, v = .slice A n cap ∧ Up B A ∧ RowAt w A n z f := by
  obtain ⟨A, cap, h1, h2, h3⟩ := row_own h
  refine ⟨A, cap, h1, h2, fun hn => ?_⟩
  obtain ⟨b, e1, e2, e3⟩ := h3 hn
  exact ⟨b, 0, e1, e2, fun k r hk hr => by rw [Nat.zero_add]; exact e3 k r hk hr⟩
/-- What is read for an append: the cells of the slice. -/
theorem RowAt.news {w : World} {a : Addr} {n z : Nat} {f : Nat → Nat → Value} (hz : 0 < z) (h : RowAt w (some a) n z f) : ∀ j u, (rowL f z n)[j]? = some u → w.cell? (a.add j) = some u := by
  intro j u hu
  obtain ⟨h1, rfl⟩ := rowL_get hu
  obtain ⟨d1, d2, d3⟩ := div_row hz h1
  obtain ⟨b, o, e1, _, e3⟩ := h (Nat.lt_of_le_of_lt (Nat.zero_le _) d1)
  injection e1 with e1
  subst e1
  have := e3 (j / z) (j % z) d1 d2
  rw [d3] at this
  rw [Go.WideShapes.add_plain]
  exact this
end Go.Proofs.YthmnmologmmeaaaGreatDoor
end
