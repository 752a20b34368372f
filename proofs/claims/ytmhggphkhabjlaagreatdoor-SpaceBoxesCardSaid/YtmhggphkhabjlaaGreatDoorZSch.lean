/- A strings.Builder, written to: what else stays as it is. -/
import Derived.Test.YtmhggphkhabjlaaGreatDoorZRangeOwn
import Derived.Test.YtmhggphkhabjlaaGreatDoorZCol
import Derived.Test.YtmhggphkhabjlaaGreatDoorZSpE

/- A strings.Builder, written to: what else stays as it is. -/
section
namespace Go.Proofs.YtmhggphkhabjlaaGreatDoor
open Go Go.RowKit Go.Deep

/-- What is no row of bytes and no builder stays. -/
def KeepB (w w' : World) : Prop := ∀ (j : Nat) (o : Obj), w.heap[j]? = some o → (∀ cs fz, o ≠ .cells cs 5 fz) → (∀ cs fz, o ≠ .cells cs 103 fz) → w'.heap[j]? = some o
theorem KeepB.refl (w : World) : KeepB w w := fun _ _ h _ _ => h
theorem KeepB.trans {a b c : World} (h : KeepB a b) (k : KeepB b c) : KeepB a c := fun j o h1 h2 h3 => k j o (h j o h1 h2 h3) h2 h3
theorem KeepB.below {a b : World} (h : Below a.heap.size a b) : KeepB a b := fun j _ h1 _ _ => (h.block j (Array.getElem?_eq_some_iff.1 h1).1).trans h1
theorem KeepB.grown {a b : World} {row : Option Nat} (h : a.grownBy b row) (hr : ∀ r, row = some r → ∃ cs fz, a.heap[r]? = some (.cells cs 5 fz)) : KeepB a b := fun j o h1 h2 _ => by
  refine (h.block j (Array.getElem?_eq_some_iff.1 h1).1 fun e => ?_).trans h1
  obtain ⟨cs, fz, h4⟩ := hr j e.symm
  rw [h4] at h1
  exact h2 cs fz (Option.some.inj h1).symm
theorem KeepB.set {a : World} {b i : Nat} {cs : Array Value} {fz : Nat × Nat} (h : a.heap[b]? = some (.cells cs 103 fz)) (v : Value) : KeepB a (a.setCell ⟨b, i, none⟩ v) := fun j o h1 _ h3 => by
  by_cases e : j = b
  · subst e
    rw [h] at h1
    exact absurd (Option.some.inj h1).symm (h3 cs fz)
  · exact (blk_setCell_other _ _ _ _ (by exact e)).trans h1
theorem KeepB.cell {a b : World} (h : KeepB a b) {j i : Nat} {cs : Array Value} {t : TypeId} {fz : Nat × Nat} (hj : a.heap[j]? = some (.cells cs t fz)) (h1 : t ≠ 5) (h2 : t ≠ 103) : b.cell? ⟨j, i, none⟩ = cs[i]? := by
  have h3 := h j _ hj (fun cs' fz' e => by injection e with _ e; exact h1 e) (fun cs' fz' e => by injection e with _ e; exact h2 e)
  exact Lib.cell_of_heap h3 i
theorem bld_below {B b : Nat} {bs : List Value} {w w' : World} (h : Lib.IsBuilder 103 5 B b bs w) (hb : Below w.heap.size w w') : Lib.IsBuilder 103 5 B b bs w' := by
  have key : ∀ p, Lib.BuilderAt 103 5 B b p bs w → Lib.BuilderAt 103 5 B b p bs w' := fun p hp => by
    have hlt := hp.lt
    obtain ⟨hB, v, hv, hown, hne⟩ := hp
    exact ⟨hB, v, (hb.block b hlt).trans hv, hown.kept (grown_below hb) (own_ne hown fun r e => by cases e), hne⟩
  exact h.imp (key _) (key _)

theorem b_copyCheckK (B b : Nat) (bs : List Value) (w : World) (h : Lib.IsBuilder 103 5 B b bs w) :
    Calls Tryz.prog 97 #[.pointer (some ⟨b, 0, none⟩)] w fun e w' => e = .returned (.tuple #[]) ∧ (Lib.BuilderAt 103 5 B b (.pointer (some ⟨b, 0, none⟩)) bs w' ∧ Below B w w' ∧ KeepB w w') := by
  rcases h with h | h
  · refine (b_copyCheck_fresh w b h.cell0 h.shape h.frozen0).mono ?_
    rintro e w' ⟨rfl, rfl⟩
    have h' := h
    obtain ⟨_, v, hv, _⟩ := h'
    exact ⟨rfl, h.used _, (Below.refl B w).setCell (p := ⟨b, 0, none⟩) h.1 _, KeepB.set hv _⟩
  · refine (b_copyCheck_used w b h.cell0).mono ?_
    rintro e w' ⟨rfl, rfl⟩
    exact ⟨rfl, h, Below.refl B _, KeepB.refl _⟩

set_option maxHeartbeats 2000000 in
set_option maxRecDepth 100000 in
theorem b_WriteStringK (B b : Nat) (bs : List Value) (s : ByteArray) (w : World) (h : Lib.IsBuilder 103 5 B b bs w) (hlen : bs.length + s.size ≤ 140737488355328) (hBw : B ≤ w.heap.size) :
    Calls Tryz.prog 77 #[.pointer (some ⟨b, 0, none⟩), .string s] w fun e w' => e = .returned (.tuple #[.int .i64 s.size, .nilIface]) ∧ (Lib.BuilderAt 103 5 B b (.pointer (some ⟨b, 0, none⟩)) (bs ++ Lib.strCells s) w' ∧ Below B w w' ∧ KeepB w w') := by
  obtain ⟨i0, hi, hz0, hz1, hz2⟩ := info_parts info_u8
  have HCC := Lib.hid (b_copyCheckK B b bs w h)
  go_enter Tryz.func77, Tryz.ntmps77
  go_wp2_with (go_at_call 97; refine HCC.out.mono ?_)
  rintro e w1 ⟨rfl, h1, hb1, hk1⟩
  have HK1 := Lib.hid hk1
  obtain ⟨hB, v, hbk, hown, hne⟩ := h1
  have c0 : w1.cell? ⟨b, 0, none⟩ = some (.pointer (some ⟨b, 0, none⟩)) := by rw [Lib.cell_of_heap hbk]; rfl
  have c1 : w1.cell? ⟨b, 1, none⟩ = some v := by rw [Lib.cell_of_heap hbk]; rfl
  clear hk1
  go_wp2_with (at_builtin; refine Lib.wpList_append_own_string _ rfl _ _ 101 9 rfl B 5 i0 Tryz.underlying101 Tryz.underlying9 hi hz0 hz1 hz2 _ _ _ rfl hown s rfl ?c3 ?c4 ?c5 ?_)
  case c3 => unfold maxLen; omega
  case c4 => omega
  case c5 => have := hb1.size; omega
  intro v' w2 hown' hgrow _
  have hlt : b < w1.heap.size := by
    rcases Nat.lt_or_ge b w1.heap.size with h' | h'
    · exact h'
    · simp [Array.getElem?_eq_none h'] at hbk
  have hb2 : w2.heap[b]? = some (.cells #[.pointer (some ⟨b, 0, none⟩), v] 103 (0, 0)) := by
    rw [hgrow.block b hlt (fun e => hne e.symm)]
    exact hbk
  have d0 : w2.cell? ⟨b, 0, none⟩ = some (.pointer (some ⟨b, 0, none⟩)) := by rw [Lib.cell_of_heap hb2]; rfl
  have d1 : w2.cell? ⟨b, 1, none⟩ = some v := by rw [Lib.cell_of_heap hb2]; rfl
  have f1 : w2.frozen? ⟨b, 1, none⟩ = false := Lib.frozen_of_heap hb2 1
  obtain ⟨ao, n', cap, rfl⟩ : ∃ ao n' cap, v' = .slice ao n' cap := by
    rcases hown'.2 with ⟨hv, _⟩ | ⟨g, cap, cur, hv, _⟩
    · exact ⟨_, _, _, hv⟩
    · exact ⟨_, _, _, hv⟩
  go_wp2
  go_ret2
  refine ⟨rfl, ?_, ?_, ?_⟩
  · exact Lib.BuilderAt.put (T := 103) (e := 5) hB hb2 (bs' := bs ++ Lib.strCells s) (by simpa [Lib.strCells_length] using hown') (by decide)
  · exact (hb1.grown hgrow (by have := hb1.size; omega) (fun k hk => (hown.lt k hk).1)).setCell (p := ⟨b, 1, none⟩) hB _
  · exact (HK1.out.trans (KeepB.grown hgrow fun r e => by obtain ⟨_, cs, h⟩ := own_lt hown r e; exact ⟨cs, _, h⟩)).trans (KeepB.set hb2 _)

set_option maxHeartbeats 2000000 in
set_option maxRecDepth 100000 in
theorem b_WriteByteK (B b : Nat) (bs : List Value) (c : Int) (w : World) (h : Lib.IsBuilder 103 5 B b bs w) (hlen : bs.length ≤ 140737488355327) (hBw : B ≤ w.heap.size) :
    Calls Tryz.prog 99 #[.pointer (some ⟨b, 0, none⟩), .int .u8 c] w fun e w' => e = .returned .nilIface ∧ (Lib.BuilderAt 103 5 B b (.pointer (some ⟨b, 0, none⟩)) (bs ++ [.int .u8 c]) w' ∧ Below B w w' ∧ KeepB w w') := by
  obtain ⟨i0, hi, hz0, hz1, hz2⟩ := info_parts info_u8
  have HCC := Lib.hid (b_copyCheckK B b bs w h)
  go_enter Tryz.func99, Tryz.ntmps99
  go_wp2_with (go_at_call 97; refine HCC.out.mono ?_)
  rintro e w1 ⟨rfl, h1, hb1, hk1⟩
  have HK1 := Lib.hid hk1
  obtain ⟨hB, v, hbk, hown, hne⟩ := h1
  have c0 : w1.cell? ⟨b, 0, none⟩ = some (.pointer (some ⟨b, 0, none⟩)) := by rw [Lib.cell_of_heap hbk]; rfl
  have c1 : w1.cell? ⟨b, 1, none⟩ = some v := by rw [Lib.cell_of_heap hbk]; rfl
  clear hk1
  have H2 := Lib.hid hown
  go_wp2_with (at_builtin; refine wpList_append_own _ rfl _ _ 101 rfl B 5 i0 _ 1 1 Tryz.underlying101 hi hz0 hz1 hz2 rfl (by decide) _ _ _ rfl (H2.out.alloc _) ⟨w1.heap.size, 0, none⟩ 1 1 [.int .u8 c] rfl rfl (cell_one_new _ _ _) (by intro u hu; simp at hu; subst hu; rfl) (by unfold maxLen; omega) (by omega) (by simp; have := hb1.size; omega) ?_)
  intro v' w2 hown' hgrow _
  have hlt0 : b < w1.heap.size := by
    rcases Nat.lt_or_ge b w1.heap.size with h' | h'
    · exact h'
    · simp [Array.getElem?_eq_none h'] at hbk
  have hbk1 : (w1.alloc (.cells #[.int .u8 c] 5)).heap[b]? = some (.cells #[.pointer (some ⟨b, 0, none⟩), v] 103 (0, 0)) := (Below.heap_alloc _ _ _ hlt0).trans hbk
  have hb2 : w2.heap[b]? = some (.cells #[.pointer (some ⟨b, 0, none⟩), v] 103 (0, 0)) := by
    rw [hgrow.block b (by simp; omega) (fun e => hne e.symm)]
    exact hbk1
  have d0 : w2.cell? ⟨b, 0, none⟩ = some (.pointer (some ⟨b, 0, none⟩)) := by rw [Lib.cell_of_heap hb2]; rfl
  have d1 : w2.cell? ⟨b, 1, none⟩ = some v := by rw [Lib.cell_of_heap hb2]; rfl
  have f1 : w2.frozen? ⟨b, 1, none⟩ = false := Lib.frozen_of_heap hb2 1
  obtain ⟨ao, n', cap, rfl⟩ : ∃ ao n' cap, v' = .slice ao n' cap := by
    rcases hown'.2 with ⟨hv, _⟩ | ⟨g, cap, cur, hv, _⟩
    · exact ⟨_, _, _, hv⟩
    · exact ⟨_, _, _, hv⟩
  have hba : Below w1.heap.size w1 (w1.alloc (.cells #[.int .u8 c] 5)) := (Below.refl _ _).alloc (Nat.le_refl _) _
  go_wp2
  go_ret
  refine ⟨rfl, ?_, ?_, ?_⟩
  · exact Lib.BuilderAt.put (T := 103) (e := 5) hB hb2 (bs' := bs ++ [.int .u8 c]) (by simpa using hown') (by decide)
  · exact ((hb1.trans (hba.mono (by have := hb1.size; omega))).grown hgrow (by have := hb1.size; simp; omega) (fun k hk => (hown.lt k hk).1)).setCell (p := ⟨b, 1, none⟩) hB _
  · exact ((HK1.out.trans (KeepB.below hba)).trans (KeepB.grown hgrow fun r e => by obtain ⟨_, cs, h⟩ := own_lt (hown.alloc (.cells #[.int .u8 c] 5)) r e; exact ⟨cs, _, h⟩)).trans (KeepB.set hb2 _)
end Go.Proofs.YtmhggphkhabjlaaGreatDoor
end

/- The error of a schema. -/
section
namespace Go.Proofs.YtmhggphkhabjlaaGreatDoor
open Go Go.RowKit Go.Deep

/-- The attributes of a slice. -/
def AttrsAt (w : World) (A : Option Addr) (n : Nat) (nm : Nat → ByteArray) (ty : Nat → Int) : Prop :=
  0 < n → ∃ b o, A = some ⟨b, o, none⟩ ∧ b < w.heap.size ∧ ∀ k, k < n → w.cell? ⟨b, o + k * 2, none⟩ = some (.string (nm k)) ∧ w.cell? ⟨b, o + k * 2 + 1, none⟩ = some (.int .i64 (ty k))
theorem AttrsAt.grown {w w' : World} {A : Option Addr} {n b : Nat} {nm : Nat → ByteArray} {ty : Nat → Int} (h : AttrsAt w A n nm ty) (hg : w.grownBy w' (some b)) (hA : ∀ a, A = some a → a.block ≠ b) : AttrsAt w' A n nm ty := fun hn => by
  obtain ⟨b', o, rfl, h2, h3⟩ := h hn
  have hne := hA _ rfl
  have hb : w'.heap[b']? = w.heap[b']? := hg.block b' h2 (fun e => hne (by injection e))
  have hc : ∀ j, w'.cell? ⟨b', j, none⟩ = w.cell? ⟨b', j, none⟩ := fun j => by simp [World.cell?, hb]
  exact ⟨b', o, rfl, Nat.lt_of_lt_of_le h2 hg.size, fun k hk => by rw [hc, hc]; exact h3 k hk⟩
theorem AttrsAt.below {w w' : World} {A : Option Addr} {n : Nat} {nm : Nat → ByteArray} {ty : Nat → Int} (h : AttrsAt w A n nm ty) (hb : Below w.heap.size w w') : AttrsAt w' A n nm ty := fun hn => by
  obtain ⟨b, o, h1, h2, h3⟩ := h hn
  refine ⟨b, o, h1, Nat.lt_of_lt_of_le h2 hb.size, fun k hk => ?_⟩
  obtain ⟨a1, a2⟩ := h3 k hk
  exact ⟨(hb.cell (p := ⟨b, o + k * 2, none⟩) h2).trans a1, (hb.cell (p := ⟨b, o + k * 2 + 1, none⟩) h2).trans a2⟩
noncomputable def attrE (met : List ByteArray) (s : ByteArray) (t : Int) : Int :=
  if (nameB s && !inN met s) = true then (if t < 1 ∨ 4 < t then 12 else 0) else 11
noncomputable def attrsTo (met : List ByteArray) (nm : Nat → ByteArray) (ty : Nat → Int) : Nat → Int
  | 0 => 0
  | k + 1 => if attrsTo met nm ty k = 0 then attrE (metK met nm k) (nm k) (ty k) else attrsTo met nm ty k
theorem attrsTo_le {met : List ByteArray} {nm : Nat → ByteArray} {ty : Nat → Int} {k n : Nat} (h : attrsTo met nm ty k ≠ 0) (hn : k ≤ n) : attrsTo met nm ty n = attrsTo met nm ty k := by
  induction n with
  | zero => obtain rfl : k = 0 := by omega
            rfl
  | succ n ih =>
    by_cases e : k = n + 1
    · rw [e]
    · rw [attrsTo, if_neg (by rw [ih (by omega)]; exact h), ih (by omega)]
/-- The error of a schema. -/
noncomputable def schE (nm : Nat → ByteArray) (lo hi : Nat → Int) (n : Nat) (an : Nat → ByteArray) (ty : Nat → Int) (m : Nat) : Int :=
  if dimsZ nm lo hi n ≠ 0 then dimsZ nm lo hi n else if m = 0 ∨ 6 < m then 9 else attrsTo (metK [] nm n) an ty m

set_option maxRecDepth 100000 in
set_option maxHeartbeats 4000000 in
theorem s_Schema (w : World) (A B : Option Addr) (n cap m bcap : Nat) (nm : Nat → ByteArray) (lo hi : Nat → Int) (an : Nat → ByteArray) (ty : Nat → Int) (hd : DimsAt w A n nm lo hi) (ha : AttrsAt w B m an ty) :
    Calls Tryz.prog 14 #[.slice A n cap, .slice B m bcap] w fun e w' => e = .returned (.int .i64 (schE nm lo hi n an ty m)) ∧ Below w.heap.size w w' := by
  have hmm := @run_makeMap Tryz.prog
  have hb0 : Below w.heap.size w (w.alloc (.map #[] 0)) := (Below.refl _ _).alloc (Nat.le_refl _) _
  have HD := Lib.hid (s_dimsError (w.alloc (.map #[] 0)) A n cap w.heap.size nm lo hi [] (hd.below hb0) (fun hn a ha => by
    obtain ⟨b, o, rfl, h2, _⟩ := hd hn
    injection ha with ha
    subst ha
    exact Nat.ne_of_lt h2) (made_names w) (by decide))
  have HAt := Lib.hid (ha.below hb0)
  have HAb : Hid (0 < m → ∀ a, B = some a → a.block ≠ w.heap.size) := fun hn a h => by
    obtain ⟨b, o, rfl, h2, _⟩ := ha hn
    injection h with h
    subst h
    exact Nat.ne_of_lt h2
  have HBB : Hid (∀ W, (w.alloc (.map #[] 0)).grownBy W (some w.heap.size) → Below w.heap.size w W) := fun W hg => by
    have hz := hg.size
    rw [World.size_alloc] at hz
    exact ⟨hg.os, hg.tape, hg.output, by omega, fun k hk => (hg.block k (by simp; omega) (fun e => by injection e with e; omega)).trans (hb0.block k hk)⟩
  obtain ⟨ve, hve⟩ : ∃ ve, schE nm lo hi n an ty m = ve := ⟨_, rfl⟩
  rw [hve]
  have HV : Hid (ve = if dimsZ nm lo hi n ≠ 0 then dimsZ nm lo hi n else if m = 0 ∨ 6 < m then 9 else attrsTo (metK [] nm n) an ty m) := hve.symm
  clear hd ha hb0 hve
  by_cases h0 : dimsZ nm lo hi n = 0
  · rw [if_neg (by rw [h0]; simp)] at HV
    have hn4 : n ≤ 4 := (dimsZ_ok h0).2.1
    have h0' : dimsEr [] nm lo hi n = 0 := h0
    rw [h0'] at HD
    clear h0 h0'
    by_cases hm : m = 0 ∨ 6 < m
    · rw [if_pos hm] at HV
      rcases hm with rfl | hm
      · go_enter Tryz.func14, Tryz.ntmps14
        go_wp2_with (first | (go_at_call 51; refine HD.out.mono ?_; rintro e w1 ⟨rfl, hg1, hN1⟩))
        go_ret
        exact ⟨by rw [HV.out]; rfl, HBB.out _ hg1⟩
      · have g1 : ((m : Int) == 0) = false := by rw [beq_eq_false_iff_ne]; omega
        have g2 : (m : Int) > 6 := by omega
        go_enter Tryz.func14, Tryz.ntmps14
        go_wp2_with (first | (go_at_call 51; refine HD.out.mono ?_; rintro e w1 ⟨rfl, hg1, hN1⟩))
        go_ret
        exact ⟨by rw [HV.out]; rfl, HBB.out _ hg1⟩
    · rw [if_neg hm] at HV
      have g1 : ((m : Int) == 0) = false := by rw [beq_eq_false_iff_ne]; omega
      have g2 : ¬ (m : Int) > 6 := by omega
      have hm6 : m ≤ 6 := by omega
      clear hm
      go_enter Tryz.func14, Tryz.ntmps14
      go_wp2_with (first | (go_at_call 51; refine HD.out.mono ?_; rintro e w1 ⟨rfl, hg1, hN1⟩))
      have HG1 := Lib.hid hg1
      have HN1 := Lib.hid (hN1 trivial)
      clear hg1 hN1 HD
      have HML : Hid ((metK [] nm n).length ≤ 4) := by show _ ≤ _; rw [metK_len]; simp; exact hn4
      generalize metK [] nm n = M0 at *
      go_loopw [8, 26] (fun _ i wr => ∃ k : Nat, k ≤ m ∧ i = .int .i64 k ∧ Hid (attrsTo M0 an ty k = 0 ∧ (w.alloc (.map #[] 0)).grownBy wr (some w.heap.size) ∧ NamesAt wr w.heap.size (metK M0 an k))) (fun _ i _ => m - (intOf i).toNat)
      case atStart => exact ⟨0, Nat.zero_le _, rfl, rfl, HG1.out, HN1.out⟩
      case round =>
        obtain ⟨k, hk, rfl, HK⟩ := hrel
        by_cases hlt : k < m
        · obtain ⟨bd, o, rfl, _, hc⟩ := (HAt.out.grown HK.out.2.1 (HAb.out (by omega))) (by omega)
          obtain ⟨c0, c1⟩ := hc k hlt
          clear hc
          have HT : Hid (attrsTo M0 an ty (k + 1) = attrE (metK M0 an k) (an k) (ty k)) := by show _ = _; rw [attrsTo, if_pos HK.out.1]
          have HE : Hid (attrE (metK M0 an k) (an k) (ty k) ≠ 0 → ve = attrE (metK M0 an k) (an k) (ty k)) := fun h => by
            rw [HV.out, attrsTo_le (k := k + 1) (by rw [HT.out]; exact h) (by omega), HT.out]
          have HLen : Hid ((metK M0 an k).length < 1000000) := by
            show _ < _
            have := metK_len M0 an k
            have := HML.out
            omega
          have HNx := HK.out.2.2
          have hbl := HNx.lt
          generalize hs : an k = s at *
          generalize hty : ty k = y at *
          have HSx : Hid (metK M0 an (k + 1) = s :: metK M0 an k) := by show _ = _; rw [metK, hs]
          clear hs hty
          generalize hMK : metK M0 an k = M at *
          have hnw := heap_alloc_new wr (Obj.cells #[Value.string s, Value.int IntKind.i64 y] 66)
          have HG : Hid ((w.alloc (.map #[] 0)).grownBy (wr.alloc (Obj.cells #[Value.string s, Value.int IntKind.i64 y] 66)) (some w.heap.size)) := HK.out.2.1.trans (World.grownBy_alloc wr _ (some w.heap.size))
          have HA := Lib.hid (HNx.alloc (Obj.cells #[Value.string s, Value.int IntKind.i64 y] 66))
          by_cases ht : nameB s = true ∧ inN M s = false
          · have HD0 : Hid (attrE M s y = if y < 1 ∨ 4 < y then 12 else 0) := by show _ = _; rw [attrE, if_pos (by rw [ht.1, ht.2]; rfl)]
            have HTk := Lib.hid (s_takes_yes w.heap.size M s _ HA.out HLen.out ht.1 ht.2)
            clear ht hMK
            go_wp2_with fail
            refine HTk.out.mono ?_
            rintro e w1 ⟨rfl, hm1, hg1⟩
            have hbk := hg1.block wr.heap.size (by simp) (by intro e; injection e with e; omega)
            have v1 : w1.cell? ⟨wr.heap.size, 1, none⟩ = some (.int .i64 y) := by rw [cell_of_row _ _ _ _ _ _ (hbk.trans hnw)]; rfl
            have HG1 : Hid ((w.alloc (.map #[] 0)).grownBy w1 (some w.heap.size)) := HG.out.trans hg1
            have HM1 := Lib.hid hm1
            clear hbk hnw hm1 hg1 HTk c0 c1
            by_cases g3 : y < 1
            · have HR : Hid (attrE M s y = 12) := by show _ = _; rw [HD0.out, if_pos (.inl g3)]
              have HF : Hid (ve = 12) := by show _ = _; rw [HE.out (by rw [HR.out]; decide), HR.out]
              go_wp2
              go_ret
              exact ⟨by rw [HF.out]; rfl, HBB.out _ HG1.out⟩
            · by_cases g4 : 4 < y
              · have HR : Hid (attrE M s y = 12) := by show _ = _; rw [HD0.out, if_pos (.inr g4)]
                have HF : Hid (ve = 12) := by show _ = _; rw [HE.out (by rw [HR.out]; decide), HR.out]
                go_wp2
                go_ret
                exact ⟨by rw [HF.out]; rfl, HBB.out _ HG1.out⟩
              · have HR : Hid (attrsTo M0 an ty (k + 1) = 0) := by show _ = _; rw [HT.out, HD0.out, if_neg (by omega)]
                have HM2 : Hid (NamesAt w1 w.heap.size (metK M0 an (k + 1))) := by show NamesAt _ _ _; rw [HSx.out]; exact HM1.out
                go_wp2
                go_roundw
                case rel => exact ⟨k + 1, by omega, by go_num, HR.out, HG1.out, HM2.out⟩
                case measure => simp [intOf]; omega
          · have HD0 : Hid (attrE M s y = 11) := by
              show _ = _
              rw [attrE, if_neg]
              simp only [Bool.and_eq_true, Bool.not_eq_true']
              exact ht
            have HF : Hid (ve = 11) := by show _ = _; rw [HE.out (by rw [HD0.out]; decide), HD0.out]
            have hno : nameB s = false ∨ inN M s = true := by
              cases h1 : nameB s
              · exact .inl rfl
              · cases h2 : inN M s
                · exact absurd ⟨h1, h2⟩ ht
                · exact .inr rfl
            have HTk := Lib.hid (s_takes_no w.heap.size M s _ HA.out hno)
            clear ht hno hMK
            go_wp2_with fail
            refine HTk.out.mono ?_
            rintro e w1 ⟨rfl, rfl⟩
            go_wp2
            go_ret
            exact ⟨by rw [HF.out]; rfl, HBB.out _ HG.out⟩
        · obtain rfl : k = m := by omega
          go_wp2
          go_ret
          exact ⟨by rw [HV.out, HK.out.1]; rfl, HBB.out _ HK.out.2.1⟩
  · rw [if_pos h0] at HV
    have h1 : (dimsEr [] nm lo hi n != 0) = true := by rw [bne_iff_ne]; exact h0
    have HV2 : Hid (ve = dimsEr [] nm lo hi n) := HV.out
    clear h0 HV
    generalize dimsEr [] nm lo hi n = E at *
    go_enter Tryz.func14, Tryz.ntmps14
    go_wp2_with (first | (go_at_call 51; refine HD.out.mono ?_; rintro e w1 ⟨rfl, hg1, hN1⟩))
    go_ret
    exact ⟨by rw [HV2.out]; rfl, HBB.out _ hg1⟩
end Go.Proofs.YtmhggphkhabjlaaGreatDoor
end
