/- The line of a cell. -/
import Derived.Test.YtogmbehomilalaaGreatDoorZBldK
import Derived.Test.YtogmbehomilalaaGreatDoorZMathT
import Derived.Test.YtogmbehomilalaaGreatDoorZPrtG
import Derived.Lib.ItoaLen
import Derived.Test.YtogmbehomilalaaGreatDoorZSpG
import Derived.Test.YtogmbehomilalaaGreatDoorShelf

/- The line of a cell. -/
section
namespace Go.Proofs.YtogmbehomilalaaGreatDoor
open Go Go.RowKit Go.Deep

abbrev IsB (B b : Nat) (l : List UInt8) (w : World) : Prop := Lib.IsBuilder 113 5 B b (Lib.byteCells l) w
/-- What writing does. -/
def Wrote (B b : Nat) (l : List UInt8) (w w' : World) : Prop := IsB B b l w' ∧ Below B w w' ∧ KeepB w w'
theorem Wrote.grow {B b : Nat} {l : List UInt8} {w w1 w2 : World} (h : Wrote B b l w w1) (hb : Below w1.heap.size w1 w2) (hB : B ≤ w1.heap.size) : Wrote B b l w w2 := ⟨bld_below h.1 hb, h.2.1.trans (hb.mono hB), h.2.2.trans (KeepB.below hb)⟩
theorem Wrote.then {B b : Nat} {l l' : List UInt8} {w w1 w2 : World} (h : Wrote B b l w w1) (h2 : Wrote B b l' w1 w2) : Wrote B b l' w w2 := ⟨h2.1, h.2.1.trans h2.2.1, h.2.2.trans h2.2.2⟩
theorem w_string (B b : Nat) (l : List UInt8) (s : ByteArray) (w : World) (h : IsB B b l w) (hlen : l.length + s.size ≤ 140737488355328) (hBw : B ≤ w.heap.size) :
    Calls Tryz.prog 63 #[.pointer (some ⟨b, 0, none⟩), .string s] w fun e w' => e = .returned (.tuple #[.int .i64 s.size, .nilIface]) ∧ Wrote B b (l ++ s.data.toList) w w' :=
  (b_WriteStringK B b _ s w h (by rw [Lib.byteCells_length]; exact hlen) hBw).mono fun e w' ⟨h1, h2, h3⟩ => ⟨h1, .inr (by
    have : Lib.byteCells (l ++ s.data.toList) = Lib.byteCells l ++ Lib.strCells s := by
      unfold Lib.byteCells Lib.strCells
      rw [List.map_append]
    rw [this]; exact h2), h3⟩
theorem w_byte (B b : Nat) (l : List UInt8) (c : UInt8) (w : World) (h : IsB B b l w) (hlen : l.length ≤ 140737488355327) (hBw : B ≤ w.heap.size) :
    Calls Tryz.prog 105 #[.pointer (some ⟨b, 0, none⟩), .int .u8 (c.toNat : Int)] w fun e w' => e = .returned .nilIface ∧ Wrote B b (l ++ [c]) w w' :=
  (b_WriteByteK B b _ (c.toNat : Int) w h (by rw [Lib.byteCells_length]; exact hlen) hBw).mono fun e w' ⟨h1, h2, h3⟩ => ⟨h1, .inr (by
    have : Lib.byteCells (l ++ [c]) = Lib.byteCells l ++ [.int .u8 (c.toNat : Int)] := by
      unfold Lib.byteCells
      rw [List.map_append]
      rfl
    rw [this]; exact h2), h3⟩
theorem i_toa (n : Int) (h0 : -9223372036854775808 ≤ n) (h1 : n ≤ 9223372036854775807) (w : World) (htab : Tab w) :
    Calls Tryz.prog 64 #[.int .i64 n] w fun e w' => e = .returned (.string ⟨(Lib.itoa n).toArray⟩) ∧ Below w.heap.size w w' := by
  refine (Tryz.strconv_Itoa n h0 h1 w htab).mono ?_
  rintro e w' ⟨rfl, k, os, rfl⟩
  exact ⟨rfl, Lib.below_grow w.heap.size w (Nat.le_refl _) k os⟩

/-- The text of the first k coordinates. -/
def atT (x : Nat → Int) : Nat → List UInt8
  | 0 => []
  | k + 1 => atT x k ++ (if k = 0 then [] else [32]) ++ Lib.itoa (x k)
theorem atT_len {x : Nat → Int} {n : Nat} (h : ∀ k, k < n → -9223372036854775808 ≤ x k ∧ x k ≤ 9223372036854775807) : ∀ k, k ≤ n → (atT x k).length ≤ 22 * k := by
  intro k
  induction k with
  | zero => intro _; exact Nat.le_refl _
  | succ k ih =>
    intro hk
    have h1 := ih (by omega)
    have h2 := Lib.itoa_length_le (x k) (h k (by omega)).1 (h k (by omega)).2
    rw [atT, List.length_append, List.length_append]
    split <;> simp <;> omega
/-- The text of the first k values. -/
def valsT (vk vn vd : Nat → Int) (vs : Nat → ByteArray) : Nat → List UInt8
  | 0 => []
  | k + 1 => valsT vk vn vd vs k ++ ((if k = 0 then [58, 32] else [44, 32]) ++ (prnV (vk k) (vn k) (vd k) (vs k)).data.toList)
theorem valsT_len {vk vn vd : Nat → Int} {vs : Nat → ByteArray} {n : Nat} (h : ∀ k, k < n → (prnV (vk k) (vn k) (vd k) (vs k)).size ≤ 1000) : ∀ k, k ≤ n → (valsT vk vn vd vs k).length ≤ 1002 * k := by
  intro k
  induction k with
  | zero => intro _; exact Nat.le_refl _
  | succ k ih =>
    intro hk
    have h1 := ih (by omega)
    have h2 := h k (by omega)
    have h3 : (prnV (vk k) (vn k) (vd k) (vs k)).data.toList.length = (prnV (vk k) (vn k) (vd k) (vs k)).size := by simp
    rw [valsT, List.length_append, List.length_append, h3]
    split <;> simp <;> omega
/-- The line of a cell. -/
def cellT (x : Nat → Int) (ln : Nat) (vk vn vd : Nat → Int) (vs : Nat → ByteArray) (vl : Nat) : List UInt8 := atT x ln ++ valsT vk vn vd vs vl ++ [10]

set_option maxRecDepth 100000 in
set_option maxHeartbeats 4000000 in
theorem s_printCell (w : World) (B b : Nat) (l : List UInt8) (P Q : Option Addr) (ln pc vl qc : Nat) (x vk vn vd : Nat → Int) (vs : Nat → ByteArray) (m : Int) (hB : IsB B b l w) (hBw : B ≤ w.heap.size)
    (hx : ∀ W, Below B w W → IntsAt W P ln x) (hv : ∀ W, Below B w W → ValsAt W Q vl vk vn vd vs) (htab : ∀ W, Below B w W → Tab W) (hm : ∀ W, Below B w W → W.cell? ⟨6, 0, none⟩ = some (.int .i64 m))
    (hl : l.length ≤ 1000000000) (hln : ln ≤ 1000) (hvl : vl ≤ 1000) (hxr : ∀ k, k < ln → -9223372036854775808 ≤ x k ∧ x k ≤ 9223372036854775807) (hvr : ∀ k, k < vl → (prnV (vk k) (vn k) (vd k) (vs k)).size ≤ 1000) :
    Calls Tryz.prog 66 #[.pointer (some ⟨b, 0, none⟩), CelV P ln pc Q vl qc] w fun e w' => e = .returned (.tuple #[]) ∧ Wrote B b (l ++ cellT x ln vk vn vd vs vl) w w' := by
  have HX := Lib.hid hx
  have HV := Lib.hid hv
  have HT := Lib.hid htab
  have HM := Lib.hid hm
  have HXR := Lib.hid hxr
  have HVR := Lib.hid hvr
  have HAL := Lib.hid (atT_len hxr)
  have HVL := Lib.hid (valsT_len hvr)
  have hbx := heap_alloc_new w (.cells #[.slice P ln pc, .slice Q vl qc] 38)
  have hb0 : Below w.heap.size w (w.alloc (.cells #[.slice P ln pc, .slice Q vl qc] 38)) := (Below.refl _ _).alloc (Nat.le_refl _) _
  have HW0 : Hid (Wrote B b l w (w.alloc (.cells #[.slice P ln pc, .slice Q vl qc] 38))) := ⟨bld_below hB hb0, hb0.mono hBw, KeepB.below hb0⟩
  have hz0 : (w.alloc (.cells #[.slice P ln pc, .slice Q vl qc] 38)).heap.size = w.heap.size + 1 := by simp
  have KX : Hid (∀ W, KeepB (w.alloc (.cells #[.slice P ln pc, .slice Q vl qc] 38)) W → W.cell? ⟨w.heap.size, 0, none⟩ = some (.slice P ln pc) ∧ W.cell? ⟨w.heap.size, 1, none⟩ = some (.slice Q vl qc)) := fun W hW => by
    have h0 := hW.cell (i := 0) hbx (by decide) (by decide)
    have h1 := hW.cell (i := 1) hbx (by decide) (by decide)
    exact ⟨h0.trans rfl, h1.trans rfl⟩
  clear hx hv htab hm hxr hvr hB hbx
  go_enter Tryz.func66, Tryz.ntmps66
  go_wp2_with fail
  generalize w.alloc (.cells #[.slice P ln pc, .slice Q vl qc] 38) = W0 at *
  obtain ⟨l0, l1⟩ := KX.out W0 (KeepB.refl _)
  go_wp2_with fail
  clear l0 l1
  go_loopw [4, 5, 14] (fun _ _ i wr => ∃ k : Nat, k ≤ ln ∧ i = .int .i64 k ∧ Hid (Wrote B b (l ++ atT x k) w wr) ∧ Hid (KeepB W0 wr)) (fun _ _ i _ => ln - (intOf i).toNat)
  case atStart => exact ⟨0, Nat.zero_le _, rfl, by show Wrote B b (l ++ []) w W0; rw [List.append_nil]; exact HW0.out, KeepB.refl _⟩
  case round =>
    obtain ⟨k, hk, rfl, HW, HK⟩ := hrel
    obtain ⟨l0, l1⟩ := KX.out wr HK.out
    by_cases hlt : k < ln
    · obtain ⟨bv, ov, rfl, _, hcv⟩ := HX.out wr HW.out.2.1 (by omega)
      have x0 := hcv k hlt
      clear hcv
      have hxk := HXR.out k hlt
      have hsz := HW.out.2.1.size
      have hak := HAL.out k (by omega)
      have hil := Lib.itoa_length_le (x k) hxk.1 hxk.2
      have HS : Hid (l ++ atT x (k + 1) = l ++ atT x k ++ (if k = 0 then [] else [32]) ++ Lib.itoa (x k)) := by show _ = _; rw [atT]; simp only [List.append_assoc]
      have HTo : Hid (∀ W, Below B w W → Calls Tryz.prog 64 #[.int .i64 (x k)] W fun e w' => e = .returned (.string ⟨(Lib.itoa (x k)).toArray⟩) ∧ Below W.heap.size W w') := fun W hW => i_toa (x k) hxk.1 hxk.2 W (HT.out W hW)
      generalize Lib.itoa (x k) = tx at *
      generalize x k = xk at *
      by_cases h0 : k = 0
      · have h1 : ¬ (0 : Int) < (k : Int) := by omega
        have HS2 : Hid (l ++ atT x (k + 1) = l ++ atT x k ++ tx) := by show _ = _; rw [HS.out, if_pos h0, List.append_nil]
        clear HS h0
        go_wp2_with fail
        refine (HTo.out _ HW.out.2.1).mono ?_
        rintro e w1 ⟨rfl, hb1⟩
        have HW1 : Hid (Wrote B b (l ++ atT x k) w w1) := HW.out.grow hb1 (by omega)
        have HK1 : Hid (KeepB W0 w1) := HK.out.trans (KeepB.below hb1)
        have hz1 := hb1.size
        have HWs := Lib.hid (w_string B b (l ++ atT x k) ⟨tx.toArray⟩ w1 HW1.out.1 (by rw [List.length_append]; show _ + tx.toArray.size ≤ _; rw [List.size_toArray]; omega) (by omega))
        go_wp2_with fail
        refine HWs.out.mono ?_
        rintro e w2 ⟨rfl, hw2⟩
        have HN : Hid (Wrote B b (l ++ atT x (k + 1)) w w2) := by show Wrote _ _ _ _ _; rw [HS2.out]; exact HW1.out.then hw2
        have HKN := Lib.hid (HK1.out.trans hw2.2.2)
        clear hw2 HWs
        go_wp2
        exact ⟨⟨k + 1, by omega, by go_num, HN, HKN⟩, by simp [intOf]; omega⟩
      · have h1 : (0 : Int) < (k : Int) := by omega
        have HS2 : Hid (l ++ atT x (k + 1) = (l ++ atT x k ++ [32]) ++ tx) := by show _ = _; rw [HS.out, if_neg h0]
        clear HS h0
        have HWb := Lib.hid (w_byte B b (l ++ atT x k) 32 wr HW.out.1 (by rw [List.length_append]; omega) (by omega))
        go_wp2_with fail
        refine HWb.out.mono ?_
        rintro e w1 ⟨rfl, hw1⟩
        have HW1 : Hid (Wrote B b (l ++ atT x k ++ [32]) w w1) := HW.out.then hw1
        have HK1 : Hid (KeepB W0 w1) := HK.out.trans hw1.2.2
        clear hw1 HWb
        go_wp2_with fail
        refine (HTo.out _ HW1.out.2.1).mono ?_
        rintro e w2 ⟨rfl, hb2⟩
        have hz1 := HW1.out.2.1.size
        have hz2 := hb2.size
        have HW2 : Hid (Wrote B b (l ++ atT x k ++ [32]) w w2) := HW1.out.grow hb2 (by omega)
        have HK2 : Hid (KeepB W0 w2) := HK1.out.trans (KeepB.below hb2)
        have HWs := Lib.hid (w_string B b (l ++ atT x k ++ [32]) ⟨tx.toArray⟩ w2 HW2.out.1 (by rw [List.length_append, List.length_append]; show _ + tx.toArray.size ≤ _; rw [List.size_toArray]; simp; omega) (by omega))
        go_wp2_with fail
        refine HWs.out.mono ?_
        rintro e w3 ⟨rfl, hw3⟩
        have HN : Hid (Wrote B b (l ++ atT x (k + 1)) w w3) := by show Wrote _ _ _ _ _; rw [HS2.out]; exact HW2.out.then hw3
        have HKN := Lib.hid (HK2.out.trans hw3.2.2)
        clear hw3 HWs
        go_wp2
        exact ⟨⟨k + 1, by omega, by go_num, HN, HKN⟩, by simp [intOf]; omega⟩
    · obtain rfl : k = ln := by omega
      go_wp2_with fail
      clear l0 l1
      have hAk := HAL.out k (Nat.le_refl _)
      go_loopw [6, 8, 9, 10, 31] (fun sp _ _ _ i wv => ∃ j : Nat, j ≤ vl ∧ sp = .string ⟨(if j = 0 then [58, 32] else [44, 32] : List UInt8).toArray⟩ ∧ i = .int .i64 j ∧ Hid (Wrote B b (l ++ atT x k ++ valsT vk vn vd vs j) w wv) ∧ Hid (KeepB W0 wv)) (fun _ _ _ _ i _ => vl - (intOf i).toNat)
      case atStart => exact ⟨0, Nat.zero_le _, rfl, rfl, by show Wrote B b (_ ++ []) w wr; rw [List.append_nil]; exact HW.out, HK.out⟩
      case round =>
        clear HW HK HX HXR
        obtain ⟨j, hj, rfl, rfl, HW, HK⟩ := hrel
        by_cases hlt : j < vl
        · obtain ⟨bv, ov, rfl, _, hcv⟩ := HV.out wr HW.out.2.1 (by omega)
          obtain ⟨x0, x1, x2, x3⟩ := hcv j hlt
          clear hcv
          have hvj := HVR.out j hlt
          have hsz := HW.out.2.1.size
          have hvl2 := HVL.out j (by omega)
          have hsl : (if j = 0 then [58, 32] else [44, 32] : List UInt8).length = 2 := by split <;> rfl
          have HS : Hid (l ++ atT x k ++ valsT vk vn vd vs (j + 1) = l ++ atT x k ++ valsT vk vn vd vs j ++ ((if j = 0 then [58, 32] else [44, 32]) ++ (prnV (vk j) (vn j) (vd j) (vs j)).data.toList)) := by show _ = _; rw [valsT]; simp only [List.append_assoc]
          have HPr : Hid (∀ W, Below B w W → Calls Tryz.prog 106 #[V (vk j) (vn j) (vd j) (vs j)] W fun e w' => e = .returned (.tuple #[.string (prnV (vk j) (vn j) (vd j) (vs j)), .int .i64 (errB (okB (vk j) (vn j) (vd j) (vs j)))]) ∧ Below W.heap.size W w') := fun W hW => v_Print _ _ _ _ m W (HT.out W hW) (HM.out W hW)
          have HSN : Hid ((if j + 1 = 0 then [58, 32] else [44, 32] : List UInt8) = [44, 32]) := if_neg (by omega)
          generalize (if j = 0 then [58, 32] else [44, 32] : List UInt8) = sep at *
          generalize prnV (vk j) (vn j) (vd j) (vs j) = pv at *
          generalize errB (okB (vk j) (vn j) (vd j) (vs j)) = ev at *
          generalize vk j = k9 at *
          generalize vn j = n9 at *
          generalize vd j = d9 at *
          generalize vs j = s9 at *
          have hba : Below wr.heap.size wr (wr.alloc (.cells #[.int .i64 k9, .int .i64 n9, .int .i64 d9, .string s9] 40)) := (Below.refl _ _).alloc (Nat.le_refl _) _
          have HWa : Hid (Wrote B b (l ++ atT x k ++ valsT vk vn vd vs j) w (wr.alloc (.cells #[.int .i64 k9, .int .i64 n9, .int .i64 d9, .string s9] 40))) := HW.out.grow hba (by omega)
          go_wp2_with fail
          refine (HPr.out _ HWa.out.2.1).mono ?_
          rintro e w1 ⟨rfl, hb1⟩
          have hza := hba.size
          have hzb := hb1.size
          have HW1 : Hid (Wrote B b (l ++ atT x k ++ valsT vk vn vd vs j) w w1) := HWa.out.grow hb1 (by omega)
          have HK1 : Hid (KeepB W0 w1) := (HK.out.trans (KeepB.below hba)).trans (KeepB.below hb1)
          clear hba hb1 HWa
          go_wp2_with fail
          have HWs := Lib.hid (w_string B b (l ++ atT x k ++ valsT vk vn vd vs j) (⟨sep.toArray⟩ ++ pv) w1 HW1.out.1 (by
            have e1 : ((⟨sep.toArray⟩ : ByteArray) ++ pv).size = 2 + pv.size := by rw [ByteArray.size_append]; show sep.toArray.size + _ = _; rw [List.size_toArray, hsl]
            rw [List.length_append, List.length_append, e1]; omega) (by omega))
          refine HWs.out.mono ?_
          rintro e w2 ⟨rfl, hw2⟩
          have HN : Hid (Wrote B b (l ++ atT x k ++ valsT vk vn vd vs (j + 1)) w w2) := by
            show Wrote _ _ _ _ _
            rw [HS.out]
            have e2 : (⟨sep.toArray⟩ ++ pv : ByteArray).data.toList = sep ++ pv.data.toList := by simp [ByteArray.data_append]
            rw [e2] at hw2
            exact HW1.out.then hw2
          have HKN := Lib.hid (HK1.out.trans hw2.2.2)
          clear hw2 HWs
          go_wp2
          exact ⟨⟨j + 1, by omega, by rw [HSN.out], by go_num, HN, HKN⟩, by simp [intOf]; omega⟩
        · obtain rfl : j = vl := by omega
          have hvl2 := HVL.out j (Nat.le_refl _)
          generalize (if j = 0 then [58, 32] else [44, 32] : List UInt8) = sep at *
          have hsz := HW.out.2.1.size
          have HWb := Lib.hid (w_byte B b (l ++ atT x k ++ valsT vk vn vd vs j) 10 wr HW.out.1 (by rw [List.length_append, List.length_append]; omega) (by omega))
          go_wp2_with fail
          refine HWb.out.mono ?_
          rintro e w1 ⟨rfl, hw1⟩
          have HN : Hid (Wrote B b (l ++ cellT x k vk vn vd vs j) w w1) := by
            show Wrote _ _ _ _ _
            have e3 : l ++ cellT x k vk vn vd vs j = l ++ atT x k ++ valsT vk vn vd vs j ++ [10] := by unfold cellT; simp only [List.append_assoc]
            rw [e3]; exact HW.out.then hw1
          clear hw1 HWb
          go_wp2
          go_end0
          exact ⟨rfl, HN.out⟩
end Go.Proofs.YtogmbehomilalaaGreatDoor
end

/- The driver's and the reference's comparisons of integers, boxes, lists. -/
section
namespace Go.Proofs.YtogmbehomilalaaGreatDoor
open Go Go.RowKit Go.Deep

/-- Are the first k numbers alike? -/
def eqTo (f g : Nat → Int) : Nat → Bool
  | 0 => true
  | k + 1 => eqTo f g k && (f k == g k)
theorem eqTo_le {f g : Nat → Int} {k n : Nat} (h : eqTo f g k = false) (hn : k ≤ n) : eqTo f g n = false := by
  induction n with
  | zero => obtain rfl : k = 0 := by omega
            exact h
  | succ n ih =>
    by_cases e : k = n + 1
    · rw [← e]; exact h
    · rw [eqTo, ih (by omega)]; rfl
def sameZ (n m : Nat) (f g : Nat → Int) : Bool := n == m && eqTo f g n

theorem drewB {B : Nat} {a w : World} (h : Below B a w) (n : Nat) : Below B a (w.drewN n) := ⟨h.os, h.tape, h.output, h.size, h.block⟩
set_option maxRecDepth 100000 in
set_option maxHeartbeats 2000000 in
theorem s_SameInts (w : World) (A B : Option Addr) (n c m d : Nat) (f g : Nat → Int) (ha : IntsAt w A n f) (hb : IntsAt w B m g) (hn : n ≤ 1000000) (hm : m ≤ 1000000) :
    Calls Tryz.prog 24 #[.slice A n c, .slice B m d] w fun e w' => e = .returned (.bool (sameZ n m f g)) ∧ Below w.heap.size w w' := by
  have HA := Lib.hid ha
  have HB := Lib.hid hb
  obtain ⟨ve, hve⟩ : ∃ ve, sameZ n m f g = ve := ⟨_, rfl⟩
  rw [hve]
  have HV := Lib.hid hve
  clear ha hb hve
  by_cases h0 : n = m
  · subst h0
    have HE : Hid (ve = eqTo f g n) := by show _ = _; rw [← HV.out, sameZ, beq_self_eq_true, Bool.true_and]
    go_enter Tryz.func24, Tryz.ntmps24
    go_wp2
    go_loopw [5] (fun i wr => ∃ k : Nat, k ≤ n ∧ i = .int .i64 k ∧ Hid (eqTo f g k = true) ∧ Hid (Below w.heap.size w wr)) (fun i _ => n - (intOf i).toNat)
    case atStart => exact ⟨0, Nat.zero_le _, rfl, rfl, Below.refl _ _⟩
    case round =>
      obtain ⟨k, hk, rfl, HK, HBw⟩ := hrel
      by_cases hlt : k < n
      · obtain ⟨b1, o1, rfl, _, hc1⟩ := (HA.out.below HBw.out) (by omega)
        have x0 := hc1 k hlt
        obtain ⟨b2, o2, rfl, _, hc2⟩ := (HB.out.below HBw.out) (by omega)
        have y0 := hc2 k hlt
        clear hc1 hc2
        have HS : Hid (eqTo f g (k + 1) = (f k == g k)) := by show _ = _; rw [eqTo, HK.out, Bool.true_and]
        by_cases he : f k = g k
        · rw [he, beq_self_eq_true] at HS
          rw [he] at x0
          clear he
          generalize g k = y at *
          go_wp2
          go_quiet (fail)
          go_wp2
          go_roundw
          case rel => exact ⟨k + 1, by omega, by go_num, HS, drewB HBw.out _⟩
          case measure => simp [intOf]; omega
        · have h1 : (f k != g k) = true := by rw [bne_iff_ne]; exact he
          have HF : Hid (ve = false) := by
            show _ = _
            rw [HE.out]
            exact eqTo_le (k := k + 1) (by rw [HS.out, beq_eq_false_iff_ne]; exact he) (by omega)
          clear he HS
          generalize f k = x at *
          generalize g k = y at *
          go_wp2
          go_quiet (fail)
          go_wp2
          go_ret
          exact ⟨by rw [HF.out]; rfl, drewB HBw.out _⟩
      · obtain rfl : k = n := by omega
        go_wp2
        go_ret
        exact ⟨by rw [HE.out, HK.out]; rfl, HBw.out⟩
  · have HE : Hid (ve = false) := by show _ = _; rw [← HV.out, sameZ, beq_false_of_ne h0, Bool.false_and]
    have h1 : ((n : Int) != (m : Int)) = true := by rw [bne_iff_ne]; omega
    go_enter Tryz.func24, Tryz.ntmps24
    go_wp2
    go_ret
    exact ⟨by rw [HE.out]; rfl, Below.refl _ _⟩

abbrev BoxW (l h : Option Addr) (n c m d : Nat) : Value := .agg #[.slice l n c, .slice h m d]
theorem box_two (w : World) (l h : Value) (t : TypeId) (W : World) (hW : Below (w.alloc (.cells #[l, h] t)).heap.size (w.alloc (.cells #[l, h] t)) W) : W.cell? ⟨w.heap.size, 0, none⟩ = some l ∧ W.cell? ⟨w.heap.size, 1, none⟩ = some h := by
  have hb := (hW.block w.heap.size (by simp)).trans (heap_alloc_new w (.cells #[l, h] t))
  exact ⟨by rw [cell_of_row _ _ _ _ _ _ hb]; rfl, by rw [cell_of_row _ _ _ _ _ _ hb]; rfl⟩
set_option maxRecDepth 100000 in
set_option maxHeartbeats 2000000 in
theorem s_SameBox (w : World) (A B C D : Option Addr) (n c m d p cp q cq : Nat) (f g f' g' : Nat → Int) (ha : IntsAt w A n f) (hb : IntsAt w B m f') (hc : IntsAt w C p g) (hd : IntsAt w D q g') (hn : n ≤ 1000000) (hm : m ≤ 1000000) (hp : p ≤ 1000000) (hq : q ≤ 1000000) :
    Calls Tryz.prog 25 #[BoxW A B n c m d, BoxW C D p cp q cq] w fun e w' => e = .returned (.bool (sameZ n p f g && sameZ m q f' g')) ∧ Below w.heap.size w w' := by
  have HI1 : Hid (∀ W, Below w.heap.size w W → Calls Tryz.prog 24 #[.slice A n c, .slice C p cp] W fun e w' => e = .returned (.bool (sameZ n p f g)) ∧ Below W.heap.size W w') := fun W hW => s_SameInts W A C n c p cp f g (ha.below hW) (hc.below hW) hn hp
  have HI2 : Hid (∀ W, Below w.heap.size w W → Calls Tryz.prog 24 #[.slice B m d, .slice D q cq] W fun e w' => e = .returned (.bool (sameZ m q f' g')) ∧ Below W.heap.size W w') := fun W hW => s_SameInts W B D m d q cq f' g' (hb.below hW) (hd.below hW) hm hq
  have HB : Hid (Below w.heap.size w (w.alloc (.cells #[.slice A n c, .slice B m d] 45))) := (Below.refl _ _).alloc (Nat.le_refl _) _
  have HB2 : Hid (Below w.heap.size w ((w.alloc (.cells #[.slice A n c, .slice B m d] 45)).alloc (.cells #[.slice C p cp, .slice D q cq] 45))) := HB.out.alloc (by simp) _
  have K1 := Lib.hid (box_two w (.slice A n c) (.slice B m d) 45)
  have K2 := Lib.hid (box_two (w.alloc (.cells #[.slice A n c, .slice B m d] 45)) (.slice C p cp) (.slice D q cq) 45)
  have hz : (w.alloc (.cells #[.slice A n c, .slice B m d] 45)).heap.size = w.heap.size + 1 := by simp
  clear ha hb hc hd
  generalize sameZ n p f g = r1 at *
  generalize sameZ m q f' g' = r2 at *
  have KK : Hid (∀ W, Below ((w.alloc (.cells #[.slice A n c, .slice B m d] 45)).alloc (.cells #[.slice C p cp, .slice D q cq] 45)).heap.size ((w.alloc (.cells #[.slice A n c, .slice B m d] 45)).alloc (.cells #[.slice C p cp, .slice D q cq] 45)) W → (W.cell? ⟨w.heap.size, 0, none⟩ = some (.slice A n c) ∧ W.cell? ⟨w.heap.size, 1, none⟩ = some (.slice B m d)) ∧ (W.cell? ⟨w.heap.size + 1, 0, none⟩ = some (.slice C p cp) ∧ W.cell? ⟨w.heap.size + 1, 1, none⟩ = some (.slice D q cq))) := fun W hW => by
    refine ⟨K1.out W (Below.trans ((Below.refl _ _).alloc (Nat.le_refl _) _) (hW.mono (by simp))), ?_⟩
    have := K2.out W hW
    rwa [hz] at this
  clear K1 K2 HB
  go_enter Tryz.func25, Tryz.ntmps25
  go_wp2_with fail
  generalize (w.alloc (.cells #[.slice A n c, .slice B m d] 45)).alloc (.cells #[.slice C p cp, .slice D q cq] 45) = W0 at *
  obtain ⟨⟨l0, l1⟩, l2, l3⟩ := KK.out W0 (Below.refl _ _)
  cases r1
  · go_wp2_with (first
      | (go_at_call_of 24 (Value.slice A n c); refine (HI1.out _ HB2.out).mono ?_; rintro e w1 ⟨rfl, hb1⟩))
    go_ret
    exact ⟨rfl, st HB2.out hb1⟩
  · cases r2 <;>
    · go_wp2_with (first
        | (go_at_call_of 24 (Value.slice A n c); refine (HI1.out _ HB2.out).mono ?_; rintro e w1 ⟨rfl, hb1⟩; obtain ⟨⟨l0, l1⟩, l2, l3⟩ := KK.out w1 hb1)
        | (go_at_call_of 24 (Value.slice B m d); refine (HI2.out _ (st HB2.out hb1)).mono ?_; rintro e w2 ⟨rfl, hb2⟩))
      go_ret
      exact ⟨rfl, st (st HB2.out hb1) hb2⟩

/-- A list of lists of integers. -/
def ListsAt (w : World) (A : Option Addr) (n : Nat) (ln : Nat → Nat) (f : Nat → Nat → Int) : Prop :=
  0 < n → ∃ b o, A = some ⟨b, o, none⟩ ∧ b < w.heap.size ∧ ∀ k, k < n → ∃ P c, w.cell? ⟨b, o + k, none⟩ = some (.slice P (ln k) c) ∧ IntsAt w P (ln k) (f k) ∧ ln k ≤ 1000000
theorem ListsAt.below {w w' : World} {A : Option Addr} {n : Nat} {ln : Nat → Nat} {f : Nat → Nat → Int} (h : ListsAt w A n ln f) (hb : Below w.heap.size w w') : ListsAt w' A n ln f := fun hn => by
  obtain ⟨b, o, h1, h2, h3⟩ := h hn
  refine ⟨b, o, h1, Nat.lt_of_lt_of_le h2 hb.size, fun k hk => ?_⟩
  obtain ⟨P, c, h4, h5, h6⟩ := h3 k hk
  exact ⟨P, c, (hb.cell (p := ⟨b, o + k, none⟩) h2).trans h4, h5.below hb, h6⟩
def listsTo (la lb : Nat → Nat) (f g : Nat → Nat → Int) : Nat → Bool
  | 0 => true
  | k + 1 => listsTo la lb f g k && sameZ (la k) (lb k) (f k) (g k)
theorem listsTo_le {la lb : Nat → Nat} {f g : Nat → Nat → Int} {k n : Nat} (h : listsTo la lb f g k = false) (hn : k ≤ n) : listsTo la lb f g n = false := by
  induction n with
  | zero => obtain rfl : k = 0 := by omega
            exact h
  | succ n ih =>
    by_cases e : k = n + 1
    · rw [← e]; exact h
    · rw [listsTo, ih (by omega)]; rfl
def sameL (n m : Nat) (la lb : Nat → Nat) (f g : Nat → Nat → Int) : Bool := n == m && listsTo la lb f g n

set_option maxRecDepth 100000 in
set_option maxHeartbeats 2000000 in
theorem s_same (w : World) (A B : Option Addr) (n c m d : Nat) (la lb : Nat → Nat) (f g : Nat → Nat → Int) (ha : ListsAt w A n la f) (hb : ListsAt w B m lb g) (hn : n ≤ 1000000) (hm : m ≤ 1000000) :
    Calls Tryz.prog 18 #[.slice A n c, .slice B m d] w fun e w' => e = .returned (.bool (sameL n m la lb f g)) ∧ Below w.heap.size w w' := by
  have HA := Lib.hid ha
  have HB := Lib.hid hb
  have HSI := Lib.hid s_SameInts
  obtain ⟨ve, hve⟩ : ∃ ve, sameL n m la lb f g = ve := ⟨_, rfl⟩
  rw [hve]
  have HV := Lib.hid hve
  clear ha hb hve
  by_cases h0 : n = m
  · subst h0
    have HE : Hid (ve = listsTo la lb f g n) := by show _ = _; rw [← HV.out, sameL, beq_self_eq_true, Bool.true_and]
    go_enter Tryz.func18, Tryz.ntmps18
    go_wp2
    go_loopw [5] (fun i wr => ∃ k : Nat, k ≤ n ∧ i = .int .i64 k ∧ Hid (listsTo la lb f g k = true) ∧ Hid (Below w.heap.size w wr)) (fun i _ => n - (intOf i).toNat)
    case atStart => exact ⟨0, Nat.zero_le _, rfl, rfl, Below.refl _ _⟩
    case round =>
      obtain ⟨k, hk, rfl, HK, HBw⟩ := hrel
      by_cases hlt : k < n
      · obtain ⟨b1, o1, rfl, hl1, hc1⟩ := (HA.out.below HBw.out) (by omega)
        obtain ⟨P, cp, x0, hP, hl⟩ := hc1 k hlt
        obtain ⟨b2, o2, rfl, hl2, hc2⟩ := (HB.out.below HBw.out) (by omega)
        obtain ⟨Q, cq, y0, hQ, hl'⟩ := hc2 k hlt
        clear hc1 hc2
        have HS : Hid (listsTo la lb f g (k + 1) = sameZ (la k) (lb k) (f k) (g k)) := by show _ = _; rw [listsTo, HK.out, Bool.true_and]
        have HI : Hid (∀ W, Below wr.heap.size wr W → Calls Tryz.prog 24 #[.slice P (la k) cp, .slice Q (lb k) cq] W fun e w' => e = .returned (.bool (sameZ (la k) (lb k) (f k) (g k))) ∧ Below W.heap.size W w') := fun W hW => HSI.out W P Q _ cp _ cq _ _ (hP.below hW) (hQ.below hW) hl hl'
        have HC : Hid (∀ W, Below wr.heap.size wr W → W.cell? ⟨b1, o1 + k, none⟩ = some (.slice P (la k) cp) ∧ W.cell? ⟨b2, o2 + k, none⟩ = some (.slice Q (lb k) cq)) := fun W hW => ⟨(hW.cell (p := ⟨b1, o1 + k, none⟩) hl1).trans x0, (hW.cell (p := ⟨b2, o2 + k, none⟩) hl2).trans y0⟩
        clear hP hQ hl hl'
        generalize sameZ (la k) (lb k) (f k) (g k) = rs at *
        have B0d : Below wr.heap.size wr wr.drew := Below.drew (Below.refl _ _)
        cases rs
        · have HF : Hid (ve = false) := by
            show _ = _
            rw [HE.out]
            exact listsTo_le (k := k + 1) HS.out (by omega)
          go_wp2_with fail
          go_region_held3 (fun W => W.cell? ⟨b1, o1 + k, none⟩ = some (.slice P (la k) cp) ∧ W.cell? ⟨b2, o2 + k, none⟩ = some (.slice Q (lb k) cq))
            (first | exact HC.out _ B1 | exact HC.out _ B0d | exact HC.out _ (Below.refl _ _))
            (first
              | (go_at_call 24; refine (HI.out _ B0d).mono ?_; rintro e w1 ⟨rfl, hb1⟩; have B1 : Below wr.heap.size wr w1 := st B0d hb1))
          all_goals
            go_wp2
            go_ret
            exact ⟨by rw [HF.out]; rfl, st HBw.out B1⟩
        · go_wp2_with fail
          go_region_held3 (fun W => W.cell? ⟨b1, o1 + k, none⟩ = some (.slice P (la k) cp) ∧ W.cell? ⟨b2, o2 + k, none⟩ = some (.slice Q (lb k) cq))
            (first | exact HC.out _ B1 | exact HC.out _ B0d | exact HC.out _ (Below.refl _ _))
            (first
              | (go_at_call 24; refine (HI.out _ B0d).mono ?_; rintro e w1 ⟨rfl, hb1⟩; have B1 : Below wr.heap.size wr w1 := st B0d hb1))
          all_goals
            go_wp2
            go_roundw
            case rel => exact ⟨k + 1, by omega, by go_num, HS, st HBw.out B1⟩
            case measure => simp [intOf]; omega
      · obtain rfl : k = n := by omega
        go_wp2
        go_ret
        exact ⟨by rw [HE.out, HK.out]; rfl, HBw.out⟩
  · have HE : Hid (ve = false) := by show _ = _; rw [← HV.out, sameL, beq_false_of_ne h0, Bool.false_and]
    have h1 : ((n : Int) != (m : Int)) = true := by rw [bne_iff_ne]; omega
    go_enter Tryz.func18, Tryz.ntmps18
    go_wp2
    go_ret
    exact ⟨by rw [HE.out]; rfl, Below.refl _ _⟩
end Go.Proofs.YtogmbehomilalaaGreatDoor
end

/- Coordinates compared. -/
section
namespace Go.Proofs.YtogmbehomilalaaGreatDoor
open Go Go.RowKit Go.Deep

/-- The comparison of the first k numbers: 0 where all are alike and there; else that of the first ones that are not. -/
def cmpTo (f g : Nat → Int) (m : Nat) : Nat → Int
  | 0 => 0
  | k + 1 => if cmpTo f g m k = 0 then (if m ≤ k then 1 else Lib.compareInt (f k) (g k)) else cmpTo f g m k
theorem cmpTo_le {f g : Nat → Int} {m k n : Nat} (h : cmpTo f g m k ≠ 0) (hn : k ≤ n) : cmpTo f g m n = cmpTo f g m k := by
  induction n with
  | zero => obtain rfl : k = 0 := by omega
            rfl
  | succ n ih =>
    by_cases e : k = n + 1
    · rw [e]
    · rw [cmpTo, if_neg (by rw [ih (by omega)]; exact h), ih (by omega)]
def cmpS (n m : Nat) (f g : Nat → Int) : Int := if cmpTo f g m n = 0 then (if n < m then -1 else 0) else cmpTo f g m n

set_option maxRecDepth 100000 in
set_option maxHeartbeats 2000000 in
theorem c_compareS (w : World) (A B : Option Addr) (n c m d : Nat) (f g : Nat → Int) (ha : IntsAt w A n f) (hb : IntsAt w B m g) (hn : n ≤ 1000000) (hm : m ≤ 1000000) :
    Calls Tryz.prog 81 #[.slice A n c, .slice B m d] w fun e w' => e = .returned (.int .i64 (cmpS n m f g)) ∧ w' = w := by
  have HA := Lib.hid ha
  have HB := Lib.hid hb
  have HC := Lib.hid Tryz.cmp_Compare_int
  obtain ⟨ve, hve⟩ : ∃ ve, cmpS n m f g = ve := ⟨_, rfl⟩
  rw [hve]
  have HV : Hid (ve = if cmpTo f g m n = 0 then (if n < m then -1 else 0) else cmpTo f g m n) := hve.symm
  clear ha hb hve
  go_enter Tryz.func81, Tryz.ntmps81
  go_wp2
  go_loopw [5, 6, 7, 8, 11] (fun _ _ _ _ i wr => ∃ k : Nat, k ≤ n ∧ i = .int .i64 k ∧ Hid (cmpTo f g m k = 0) ∧ wr = w) (fun _ _ _ _ i _ => n - (intOf i).toNat)
  case atStart => exact ⟨0, Nat.zero_le _, rfl, rfl, rfl⟩
  case round =>
    obtain ⟨k, hk, rfl, HK, rfl⟩ := hrel
    by_cases hlt : k < n
    · obtain ⟨b1, o1, rfl, _, hc1⟩ := HA.out (by omega)
      have x0 := hc1 k hlt
      clear hc1
      have HS : Hid (cmpTo f g m (k + 1) = if m ≤ k then 1 else Lib.compareInt (f k) (g k)) := by show _ = _; rw [cmpTo, if_pos HK.out]
      by_cases hmk : m ≤ k
      · have HF : Hid (ve = 1) := by
          show _ = _
          have h1 : cmpTo f g m (k + 1) = 1 := by rw [HS.out, if_pos hmk]
          rw [HV.out, cmpTo_le (k := k + 1) (by rw [h1]; decide) (by omega), h1]; rfl
        have hmk' : (m : Int) ≤ (k : Int) := by omega
        generalize f k = x at *
        go_wp2
        go_ret
        exact ⟨by rw [HF.out]; rfl, rfl⟩
      · obtain ⟨b2, o2, rfl, _, hc2⟩ := HB.out (by omega)
        have y0 := hc2 k (by omega)
        clear hc2
        rw [if_neg hmk] at HS
        have HE : Hid (Lib.compareInt (f k) (g k) ≠ 0 → ve = Lib.compareInt (f k) (g k)) := fun h => by
          have h1 := cmpTo_le (f := f) (g := g) (m := m) (k := k + 1) (n := n) (by rw [HS.out]; exact h) (by omega)
          rw [HV.out, h1, HS.out, if_neg h]
        have hmk' : ¬ (m : Int) ≤ (k : Int) := by omega
        have HCk := Lib.hid (HC.out (f k) (g k))
        generalize Lib.compareInt (f k) (g k) = z at *
        generalize f k = x at *
        generalize g k = y at *
        by_cases hz : z = 0
        · subst hz
          go_wp2_with (first | (go_at_call 50; refine (HCk.out _).mono ?_; rintro e w1 ⟨rfl, rfl⟩))
          exact ⟨⟨k + 1, by omega, by go_num, HS.out, trivial⟩, by simp [intOf]; omega⟩
        · have hz1 : (z != 0) = true := by rw [bne_iff_ne]; exact hz
          have HF : Hid (ve = z) := HE.out hz
          go_wp2_with (first | (go_at_call 50; refine (HCk.out _).mono ?_; rintro e w1 ⟨rfl, rfl⟩))
          go_ret
          exact ⟨by rw [HF.out]; rfl, rfl⟩
    · obtain rfl : k = n := by omega
      rw [if_pos HK.out] at HV
      by_cases hkm : k < m
      · rw [if_pos hkm] at HV
        have hkm' : (k : Int) < (m : Int) := by omega
        go_wp2
        go_ret
        exact ⟨by rw [HV.out]; rfl, rfl⟩
      · rw [if_neg hkm] at HV
        have hkm' : ¬ (k : Int) < (m : Int) := by omega
        go_wp2
        go_ret
        exact ⟨by rw [HV.out]; rfl, rfl⟩
theorem s_Compare (w : World) (A B : Option Addr) (n c m d : Nat) (f g : Nat → Int) (ha : IntsAt w A n f) (hb : IntsAt w B m g) (hn : n ≤ 1000000) (hm : m ≤ 1000000) :
    Calls Tryz.prog 40 #[.slice A n c, .slice B m d] w fun e w' => e = .returned (.int .i64 (cmpS n m f g)) ∧ w' = w := by
  have H := Lib.hid (c_compareS w A B n c m d f g ha hb hn hm)
  clear ha hb
  generalize cmpS n m f g = z at *
  go_enter Tryz.func40, Tryz.ntmps40
  go_wp2_with (first | (go_at_call 81; refine H.out.mono ?_; rintro e w1 ⟨rfl, rfl⟩))
  go_ret
  exact ⟨rfl, rfl⟩
end Go.Proofs.YtogmbehomilalaaGreatDoor
end
