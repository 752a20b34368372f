/- What Check and Print return of a value; the variables of values. -/
import Derived.Test.YtmhggphkhabjlaaGreatDoorZMathD
import Derived.Test.YtmhggphkhabjlaaGreatDoorZFitsG
import Derived.Test.YtmhggphkhabjlaaGreatDoorZQuo
import Derived.Test.YtmhggphkhabjlaaGreatDoorZOps
import Derived.Test.YtmhggphkhabjlaaGreatDoorShelf
import Derived.Test.YtmhggphkhabjlaaGreatDoorZSch
import Derived.Test.YtmhggphkhabjlaaGreatDoorZMathT
import Derived.Lib.ItoaLen

/- What Check and Print return of a value; the variables of values. -/
section
namespace Go.Proofs.YtmhggphkhabjlaaGreatDoor
open Go.RowKit Go.Deep

def errB (b : Bool) : Int := if b then 0 else 2
theorem ret_two {a b : ByteArray} {c : Int} (h : a = b) : Ending.returned (.tuple #[.string a, .int .i64 c]) = .returned (.tuple #[.string b, .int .i64 c]) := by rw [h]
/-- What Print returns of a value. -/
def prnV (k n d : Int) (s : ByteArray) : ByteArray :=
  if okB k n d s = true then if k = 0 then ⟨(63 :: Lib.decDigits n.toNat).toArray⟩ else if k = 1 then (if n = 1 then ⟨#[116, 114, 117, 101]⟩ else ⟨#[102, 97, 108, 115, 101]⟩) else if k = 2 then ⟨(txt (qV n d)).toArray⟩ else ⟨(39 :: quo s.data.toList ++ [39]).toArray⟩ else ⟨#[]⟩
end Go.Proofs.YtmhggphkhabjlaaGreatDoor
end

/- The program's Number, Check and Print, whatever the value. -/
section
namespace Go.Proofs.YtmhggphkhabjlaaGreatDoor
open Go.RowKit Go.Deep

set_option maxHeartbeats 1000000 in
theorem c_FormatInt (n : Nat) (w : World) (h1 : n ≤ 255) (htab : Tab w) :
    Calls Tryz.prog 112 #[.int .i64 n, .int .i64 10] w fun e w' => e = .returned (.string ⟨(Lib.decDigits n).toArray⟩) ∧ Below w.heap.size w w' := by
  have HS : Hid (Calls Tryz.prog 110 #[.int .i64 n, .int .i64 10] w fun e w' => e = .returned (.string ⟨(Lib.decDigits n).toArray⟩) ∧ Below w.heap.size w w') := by
    refine (Tryz.internal_strconv_FormatInt_10 (n : Int) (by omega) (by omega) w htab).mono ?_
    rintro e w' ⟨rfl, k, os, rfl⟩
    refine ⟨?_, Lib.below_grow w.heap.size w (Nat.le_refl _) k os⟩
    rw [show Lib.itoa (n : Int) = Lib.decDigits n by unfold Lib.itoa; rw [if_neg (by omega), Int.toNat_natCast]]
  clear htab
  go_enter Tryz.func112, Tryz.ntmps112
  go_wp2_with fail
  refine HS.out.mono ?_
  rintro e w' ⟨rfl, hb⟩
  go_wp2
  go_ret
  exact ⟨rfl, hb⟩

theorem kinds_of (k n d : Int) (s : ByteArray) (w : World) : ∃ W, w.alloc (.cells #[.int .i64 k, .int .i64 n, .int .i64 d, .string s] 116) = W ∧ Below w.heap.size w W ∧
    Hid (∀ W', Below W.heap.size W W' → W'.cell? ⟨w.heap.size, 0, none⟩ = some (.int .i64 k) ∧ W'.cell? ⟨w.heap.size, 1, none⟩ = some (.int .i64 n) ∧ W'.cell? ⟨w.heap.size, 2, none⟩ = some (.int .i64 d) ∧ W'.cell? ⟨w.heap.size, 3, none⟩ = some (.string s)) := by
  obtain ⟨W, b, hW, hb, hlt, hbel, K⟩ := box_facts w k n d s
  subst hb
  exact ⟨W, hW, hbel, K⟩

set_option maxRecDepth 100000 in
set_option maxHeartbeats 4000000 in
theorem v_Print (k n d : Int) (s : ByteArray) (m : Int) (w : World) (htab : Tab w) (hm : w.cell? ⟨6, 0, none⟩ = some (.int .i64 m)) :
    Calls Tryz.prog 100 #[V k n d s] w fun e w' => e = .returned (.tuple #[.string (prnV k n d s), .int .i64 (errB (okB k n d s))]) ∧ Below w.heap.size w w' := by
  have h0 : 6 < w.heap.size := by
    by_cases h : 6 < w.heap.size
    · exact h
    · exfalso
      have : w.heap[6]? = none := Array.getElem?_eq_none (by omega)
      simp [World.cell?, this] at hm
  have HM : Hid (∀ W', Below w.heap.size w W' → W'.cell? ⟨6, 0, none⟩ = some (.int .i64 m)) := fun W' hw => (hw.cell (p := ⟨6, 0, none⟩) h0).trans hm
  have HT := Lib.hid htab
  clear htab hm h0
  have HV := Lib.hid (fun W => k_valid k n d s W)
  by_cases hok : okB k n d s = true
  · have hg := okB_good.1 hok
    have hp : prnV k n d s = if k = 0 then ⟨(63 :: Lib.decDigits n.toNat).toArray⟩ else if k = 1 then (if n = 1 then ⟨#[116, 114, 117, 101]⟩ else ⟨#[102, 97, 108, 115, 101]⟩) else if k = 2 then ⟨(txt (qV n d)).toArray⟩ else ⟨(39 :: quo s.data.toList ++ [39]).toArray⟩ := if_pos hok
    rw [hok] at HV
    rw [hok, hp]
    clear hp hok
    cases hg with
    | text _ h =>
      have hz := h.1
      obtain ⟨W, hW, hbel, K⟩ := kinds_of 3 0 0 s w
      have HBel := Lib.hid hbel
      obtain ⟨k0, k1, k2, k3⟩ := K.out W (Below.refl _ _)
      have HR : Hid (∀ W, Below w.heap.size w W → Calls Tryz.prog 116 #[.string s, .string ⟨#[39]⟩, .string ⟨#[39, 39]⟩] W fun e w' => e = .returned (.string ⟨(quo s.data.toList).toArray⟩) ∧ Below W.heap.size W w') := fun W hw => by
        have h9 := Tryz.strings_ReplaceAll s ⟨#[39]⟩ ⟨#[39, 39]⟩ m W (by omega) (HM.out _ hw) (by decide) (by
          have e1 : Lib.countB s ⟨#[39]⟩ ≤ s.size := by
            have := count_quote_le s.data.toList
            have e2 : s.data.toList.length = s.size := by simp
            first | exact e2 ▸ this | (unfold Lib.countB; exact e2 ▸ this)
          have e2 : (⟨#[39, 39]⟩ : ByteArray).size = 2 := rfl
          rw [e2]; omega)
        have e3 : Lib.replaceAll s.data.toList (⟨#[39]⟩ : ByteArray).data.toList (⟨#[39, 39]⟩ : ByteArray).data.toList = quo s.data.toList := replaceAll_quo _
        rw [e3] at h9
        exact h9
      have hql : (quo s.data.toList).length ≤ 40 := by
        have := quo_length s.data.toList
        have e2 : s.data.toList.length = s.size := by simp
        omega
      rw [if_neg (by decide), if_neg (by decide), if_neg (by decide)]
      generalize quo s.data.toList = Q at *
      clear h hbel
      go_enter Tryz.func100, Tryz.ntmps100
      go_wp2_with fail
      refine (HV.out W).mono ?_
      rintro e w1 ⟨rfl, hb1⟩
      have HB1 := Lib.hid hb1
      clear k0 k1 k2 k3
      obtain ⟨k0, k1, k2, k3⟩ := K.out _ hb1
      clear hb1
      go_wp2_with fail
      refine (HR.out w1 (btr HBel.out HB1.out)).mono ?_
      rintro e w2 ⟨rfl, hb2⟩
      have HB2 := Lib.hid (btr HB1.out hb2)
      clear hb2 k0 k1 k2 k3
      go_wp2
      go_ret2
      exact ⟨ret_two (by apply ByteArray.ext; simp [ByteArray.data_append]), btr HBel.out HB2.out⟩
    | missing n h1 h2 =>
      obtain ⟨c, rfl⟩ : ∃ c : Nat, n = (c : Int) := ⟨n.toNat, by omega⟩
      obtain ⟨W, hW, hbel, K⟩ := kinds_of 0 c 0 noS w
      have HBel := Lib.hid hbel
      obtain ⟨k0, k1, k2, k3⟩ := K.out W (Below.refl _ _)
      have HF : Hid (∀ W, Below w.heap.size w W → Calls Tryz.prog 112 #[.int .i64 c, .int .i64 10] W fun e w' => e = .returned (.string ⟨(Lib.decDigits c).toArray⟩) ∧ Below W.heap.size W w') := fun W hw => c_FormatInt c W (by omega) (HT.out.below hw)
      have hl9 : (Lib.decDigits c).length ≤ 900009 := Nat.le_trans (dec_len_words c 1 (by rw [Nat.pow_one]; unfold W64; omega) (by decide)) (by decide)
      have hT : Hid ((⟨(63 :: Lib.decDigits ((c : Int)).toNat).toArray⟩ : ByteArray) = ⟨(63 :: Lib.decDigits c).toArray⟩) := by show _ = _; rw [Int.toNat_natCast]
      rw [if_pos rfl, hT.out]
      generalize Lib.decDigits c = D at *
      clear hbel
      go_enter Tryz.func100, Tryz.ntmps100
      go_wp2_with fail
      refine (HV.out W).mono ?_
      rintro e w1 ⟨rfl, hb1⟩
      have HB1 := Lib.hid hb1
      clear k0 k1 k2 k3
      obtain ⟨k0, k1, k2, k3⟩ := K.out _ hb1
      clear hb1
      go_wp2_with fail
      refine (HF.out w1 (btr HBel.out HB1.out)).mono ?_
      rintro e w2 ⟨rfl, hb2⟩
      have HB2 := Lib.hid (btr HB1.out hb2)
      clear hb2 k0 k1 k2 k3
      go_wp2
      go_ret2
      exact ⟨ret_two (by apply ByteArray.ext; simp [ByteArray.data_append]), btr HBel.out HB2.out⟩
    | truth t =>
      obtain ⟨W, hW, hbel, K⟩ := kinds_of 1 (bit t) 0 noS w
      have HBel := Lib.hid hbel
      obtain ⟨k0, k1, k2, k3⟩ := K.out W (Below.refl _ _)
      rw [if_neg (by decide), if_pos rfl]
      clear hbel
      cases t
      · have HF := Lib.hid (fun W => Tryz.strconv_FormatBool false W)
        go_enter Tryz.func100, Tryz.ntmps100
        go_wp2_with fail
        refine (HV.out W).mono ?_
        rintro e w1 ⟨rfl, hb1⟩
        have HB1 := Lib.hid hb1
        clear k0 k1 k2 k3
        obtain ⟨k0, k1, k2, k3⟩ := K.out _ hb1
        clear hb1
        go_wp2_with fail
        refine (HF.out w1).mono ?_
        rintro e w2 ⟨rfl, rfl⟩
        clear k0 k1 k2 k3
        go_wp2
        go_ret2
        exact ⟨rfl, btr HBel.out HB1.out⟩
      · have HF := Lib.hid (fun W => Tryz.strconv_FormatBool true W)
        go_enter Tryz.func100, Tryz.ntmps100
        go_wp2_with fail
        refine (HV.out W).mono ?_
        rintro e w1 ⟨rfl, hb1⟩
        have HB1 := Lib.hid hb1
        clear k0 k1 k2 k3
        obtain ⟨k0, k1, k2, k3⟩ := K.out _ hb1
        clear hb1
        go_wp2_with fail
        refine (HF.out w1).mono ?_
        rintro e w2 ⟨rfl, rfl⟩
        clear k0 k1 k2 k3
        go_wp2
        go_ret2
        exact ⟨rfl, btr HBel.out HB1.out⟩
    | num n d h =>
      obtain ⟨W, hW, hbel, K⟩ := kinds_of 2 n d noS w
      have HBel := Lib.hid hbel
      obtain ⟨k0, k1, k2, k3⟩ := K.out W (Below.refl _ _)
      have HR := Lib.hid (fun W => v_rat W n d h)
      have HTx : Hid (∀ W u, Below w.heap.size w W → RatV W u (qV n d) → Calls Tryz.prog 115 #[u] W fun e w' => e = .returned (.string ⟨(txt (qV n d)).toArray⟩) ∧ Below W.heap.size W w') := fun W u hw hu => by
        have h9 := ratW_qV h
        exact v_Text W u _ hu ⟨by have := h9.1; omega, by have := h9.2; omega⟩ (HT.out.below hw)
      rw [if_neg (by decide), if_neg (by decide), if_pos rfl]
      generalize qV n d = q at *
      generalize txt q = T at *
      clear hbel h
      go_enter Tryz.func100, Tryz.ntmps100
      go_wp2_with fail
      refine (HV.out W).mono ?_
      rintro e w1 ⟨rfl, hb1⟩
      have HB1 := Lib.hid hb1
      clear k0 k1 k2 k3
      obtain ⟨k0, k1, k2, k3⟩ := K.out _ hb1
      clear hb1
      go_wp2_with fail
      refine (HR.out w1).mono ?_
      rintro e w2 ⟨u, rfl, hu, hb2⟩
      have HU := Lib.hid hu
      have HB2 := Lib.hid (btr HB1.out hb2)
      clear hu hb2 k0 k1 k2 k3
      go_wp2_with fail
      refine (HTx.out w2 u (btr HBel.out HB2.out) HU.out).mono ?_
      rintro e w3 ⟨rfl, hb3⟩
      have HB3 := Lib.hid (btr HB2.out hb3)
      clear hb3
      go_wp2
      go_ret2
      exact ⟨rfl, btr HBel.out HB3.out⟩
  · have hok' : okB k n d s = false := by simpa using hok
    rw [hok'] at HV
    rw [show prnV k n d s = ⟨#[]⟩ from if_neg hok, hok']
    obtain ⟨W, hW, hbel, K⟩ := kinds_of k n d s w
    have HBel := Lib.hid hbel
    obtain ⟨k0, k1, k2, k3⟩ := K.out W (Below.refl _ _)
    clear hbel hok hok'
    go_enter Tryz.func100, Tryz.ntmps100
    go_wp2_with fail
    refine (HV.out W).mono ?_
    rintro e w1 ⟨rfl, hb1⟩
    have HB1 := Lib.hid hb1
    clear k0 k1 k2 k3 hb1
    go_wp2
    go_ret2
    exact ⟨rfl, btr HBel.out HB1.out⟩
end Go.Proofs.YtmhggphkhabjlaaGreatDoor
end

/- The line of a cell. -/
section
namespace Go.Proofs.YtmhggphkhabjlaaGreatDoor
open Go Go.RowKit Go.Deep

abbrev IsB (B b : Nat) (l : List UInt8) (w : World) : Prop := Lib.IsBuilder 103 5 B b (Lib.byteCells l) w
/-- What writing does. -/
def Wrote (B b : Nat) (l : List UInt8) (w w' : World) : Prop := IsB B b l w' ∧ Below B w w' ∧ KeepB w w'
theorem Wrote.grow {B b : Nat} {l : List UInt8} {w w1 w2 : World} (h : Wrote B b l w w1) (hb : Below w1.heap.size w1 w2) (hB : B ≤ w1.heap.size) : Wrote B b l w w2 := ⟨bld_below h.1 hb, h.2.1.trans (hb.mono hB), h.2.2.trans (KeepB.below hb)⟩
theorem Wrote.then {B b : Nat} {l l' : List UInt8} {w w1 w2 : World} (h : Wrote B b l w w1) (h2 : Wrote B b l' w1 w2) : Wrote B b l' w w2 := ⟨h2.1, h.2.1.trans h2.2.1, h.2.2.trans h2.2.2⟩
theorem w_string (B b : Nat) (l : List UInt8) (s : ByteArray) (w : World) (h : IsB B b l w) (hlen : l.length + s.size ≤ 140737488355328) (hBw : B ≤ w.heap.size) :
    Calls Tryz.prog 77 #[.pointer (some ⟨b, 0, none⟩), .string s] w fun e w' => e = .returned (.tuple #[.int .i64 s.size, .nilIface]) ∧ Wrote B b (l ++ s.data.toList) w w' :=
  (b_WriteStringK B b _ s w h (by rw [Lib.byteCells_length]; exact hlen) hBw).mono fun e w' ⟨h1, h2, h3⟩ => ⟨h1, .inr (by
    have : Lib.byteCells (l ++ s.data.toList) = Lib.byteCells l ++ Lib.strCells s := by
      unfold Lib.byteCells Lib.strCells
      rw [List.map_append]
    rw [this]; exact h2), h3⟩
theorem w_byte (B b : Nat) (l : List UInt8) (c : UInt8) (w : World) (h : IsB B b l w) (hlen : l.length ≤ 140737488355327) (hBw : B ≤ w.heap.size) :
    Calls Tryz.prog 99 #[.pointer (some ⟨b, 0, none⟩), .int .u8 (c.toNat : Int)] w fun e w' => e = .returned .nilIface ∧ Wrote B b (l ++ [c]) w w' :=
  (b_WriteByteK B b _ (c.toNat : Int) w h (by rw [Lib.byteCells_length]; exact hlen) hBw).mono fun e w' ⟨h1, h2, h3⟩ => ⟨h1, .inr (by
    have : Lib.byteCells (l ++ [c]) = Lib.byteCells l ++ [.int .u8 (c.toNat : Int)] := by
      unfold Lib.byteCells
      rw [List.map_append]
      rfl
    rw [this]; exact h2), h3⟩
theorem i_toa (n : Int) (h0 : -9223372036854775808 ≤ n) (h1 : n ≤ 9223372036854775807) (w : World) (htab : Tab w) :
    Calls Tryz.prog 78 #[.int .i64 n] w fun e w' => e = .returned (.string ⟨(Lib.itoa n).toArray⟩) ∧ Below w.heap.size w w' := by
  refine (Tryz.strconv_Itoa n h0 h1 w htab).mono ?_
  rintro e w' ⟨rfl, k, os, rfl⟩
  exact ⟨rfl, Lib.below_grow w.heap.size w (Nat.le_refl _) k os⟩

/-- The text of the first k coordinates. -/
def atT (x : Nat → Int) : Nat → List UInt8
  | 0 => []
  | k + 1 => atT x k ++ (if k = 0 then [] else [32]) ++ Lib.itoa (x k)
theorem atT_len {x : Nat → Int} {n : Nat} (h : ∀ k, k < n → -9223372036854775808 ≤ x k ∧ x k ≤ 9223372036854775807) : ∀ k, k ≤ n → (atT x k).length ≤ 22 * k := by
  intro k
  induction k with
  | zero => intro _; exact Nat.le_refl _
  | succ k ih =>
    intro hk
    have h1 := ih (by omega)
    have h2 := Lib.itoa_length_le (x k) (h k (by omega)).1 (h k (by omega)).2
    rw [atT, List.length_append, List.length_append]
    split <;> simp <;> omega
/-- The text of the first k values. -/
def valsT (vk vn vd : Nat → Int) (vs : Nat → ByteArray) : Nat → List UInt8
  | 0 => []
  | k + 1 => valsT vk vn vd vs k ++ ((if k = 0 then [58, 32] else [44, 32]) ++ (prnV (vk k) (vn k) (vd k) (vs k)).data.toList)
theorem valsT_len {vk vn vd : Nat → Int} {vs : Nat → ByteArray} {n : Nat} (h : ∀ k, k < n → (prnV (vk k) (vn k) (vd k) (vs k)).size ≤ 1000) : ∀ k, k ≤ n → (valsT vk vn vd vs k).length ≤ 1002 * k := by
  intro k
  induction k with
  | zero => intro _; exact Nat.le_refl _
  | succ k ih =>
    intro hk
    have h1 := ih (by omega)
    have h2 := h k (by omega)
    have h3 : (prnV (vk k) (vn k) (vd k) (vs k)).data.toList.length = (prnV (vk k) (vn k) (vd k) (vs k)).size := by simp
    rw [valsT, List.length_append, List.length_append, h3]
    split <;> simp <;> omega
/-- The line of a cell. -/
def cellT (x : Nat → Int) (ln : Nat) (vk vn vd : Nat → Int) (vs : Nat → ByteArray) (vl : Nat) : List UInt8 := atT x ln ++ valsT vk vn vd vs vl ++ [10]

set_option maxRecDepth 100000 in
set_option maxHeartbeats 4000000 in
theorem s_printCell (w : World) (B b : Nat) (l : List UInt8) (P Q : Option Addr) (ln pc vl qc : Nat) (x vk vn vd : Nat → Int) (vs : Nat → ByteArray) (m : Int) (hB : IsB B b l w) (hBw : B ≤ w.heap.size)
    (hx : ∀ W, Below B w W → IntsAt W P ln x) (hv : ∀ W, Below B w W → ValsAt W Q vl vk vn vd vs) (htab : ∀ W, Below B w W → Tab W) (hm : ∀ W, Below B w W → W.cell? ⟨6, 0, none⟩ = some (.int .i64 m))
    (hl : l.length ≤ 1000000000) (hln : ln ≤ 1000) (hvl : vl ≤ 1000) (hxr : ∀ k, k < ln → -9223372036854775808 ≤ x k ∧ x k ≤ 9223372036854775807) (hvr : ∀ k, k < vl → (prnV (vk k) (vn k) (vd k) (vs k)).size ≤ 1000) :
    Calls Tryz.prog 80 #[.pointer (some ⟨b, 0, none⟩), CelV P ln pc Q vl qc] w fun e w' => e = .returned (.tuple #[]) ∧ Wrote B b (l ++ cellT x ln vk vn vd vs vl) w w' := by
  have HX := Lib.hid hx
  have HV := Lib.hid hv
  have HT := Lib.hid htab
  have HM := Lib.hid hm
  have HXR := Lib.hid hxr
  have HVR := Lib.hid hvr
  have HAL := Lib.hid (atT_len hxr)
  have HVL := Lib.hid (valsT_len hvr)
  have hbx := heap_alloc_new w (.cells #[.slice P ln pc, .slice Q vl qc] 112)
  have hb0 : Below w.heap.size w (w.alloc (.cells #[.slice P ln pc, .slice Q vl qc] 112)) := (Below.refl _ _).alloc (Nat.le_refl _) _
  have HW0 : Hid (Wrote B b l w (w.alloc (.cells #[.slice P ln pc, .slice Q vl qc] 112))) := ⟨bld_below hB hb0, hb0.mono hBw, KeepB.below hb0⟩
  have hz0 : (w.alloc (.cells #[.slice P ln pc, .slice Q vl qc] 112)).heap.size = w.heap.size + 1 := by simp
  have KX : Hid (∀ W, KeepB (w.alloc (.cells #[.slice P ln pc, .slice Q vl qc] 112)) W → W.cell? ⟨w.heap.size, 0, none⟩ = some (.slice P ln pc) ∧ W.cell? ⟨w.heap.size, 1, none⟩ = some (.slice Q vl qc)) := fun W hW => by
    have h0 := hW.cell (i := 0) hbx (by decide) (by decide)
    have h1 := hW.cell (i := 1) hbx (by decide) (by decide)
    exact ⟨h0.trans rfl, h1.trans rfl⟩
  clear hx hv htab hm hxr hvr hB hbx
  go_enter Tryz.func80, Tryz.ntmps80
  go_wp2_with fail
  generalize w.alloc (.cells #[.slice P ln pc, .slice Q vl qc] 112) = W0 at *
  obtain ⟨l0, l1⟩ := KX.out W0 (KeepB.refl _)
  go_wp2_with fail
  clear l0 l1
  go_loopw [4, 5, 14] (fun _ _ i wr => ∃ k : Nat, k ≤ ln ∧ i = .int .i64 k ∧ Hid (Wrote B b (l ++ atT x k) w wr) ∧ Hid (KeepB W0 wr)) (fun _ _ i _ => ln - (intOf i).toNat)
  case atStart => exact ⟨0, Nat.zero_le _, rfl, by show Wrote B b (l ++ []) w W0; rw [List.append_nil]; exact HW0.out, KeepB.refl _⟩
  case round =>
    obtain ⟨k, hk, rfl, HW, HK⟩ := hrel
    obtain ⟨l0, l1⟩ := KX.out wr HK.out
    by_cases hlt : k < ln
    · obtain ⟨bv, ov, rfl, _, hcv⟩ := HX.out wr HW.out.2.1 (by omega)
      have x0 := hcv k hlt
      clear hcv
      have hxk := HXR.out k hlt
      have hsz := HW.out.2.1.size
      have hak := HAL.out k (by omega)
      have hil := Lib.itoa_length_le (x k) hxk.1 hxk.2
      have HS : Hid (l ++ atT x (k + 1) = l ++ atT x k ++ (if k = 0 then [] else [32]) ++ Lib.itoa (x k)) := by show _ = _; rw [atT]; simp only [List.append_assoc]
      have HTo : Hid (∀ W, Below B w W → Calls Tryz.prog 78 #[.int .i64 (x k)] W fun e w' => e = .returned (.string ⟨(Lib.itoa (x k)).toArray⟩) ∧ Below W.heap.size W w') := fun W hW => i_toa (x k) hxk.1 hxk.2 W (HT.out W hW)
      generalize Lib.itoa (x k) = tx at *
      generalize x k = xk at *
      by_cases h0 : k = 0
      · have h1 : ¬ (0 : Int) < (k : Int) := by omega
        have HS2 : Hid (l ++ atT x (k + 1) = l ++ atT x k ++ tx) := by show _ = _; rw [HS.out, if_pos h0, List.append_nil]
        clear HS h0
        go_wp2_with fail
        refine (HTo.out _ HW.out.2.1).mono ?_
        rintro e w1 ⟨rfl, hb1⟩
        have HW1 : Hid (Wrote B b (l ++ atT x k) w w1) := HW.out.grow hb1 (by omega)
        have HK1 : Hid (KeepB W0 w1) := HK.out.trans (KeepB.below hb1)
        have hz1 := hb1.size
        have HWs := Lib.hid (w_string B b (l ++ atT x k) ⟨tx.toArray⟩ w1 HW1.out.1 (by rw [List.length_append]; show _ + tx.toArray.size ≤ _; rw [List.size_toArray]; omega) (by omega))
        go_wp2_with fail
        refine HWs.out.mono ?_
        rintro e w2 ⟨rfl, hw2⟩
        have HN : Hid (Wrote B b (l ++ atT x (k + 1)) w w2) := by show Wrote _ _ _ _ _; rw [HS2.out]; exact HW1.out.then hw2
        have HKN := Lib.hid (HK1.out.trans hw2.2.2)
        clear hw2 HWs
        go_wp2
        exact ⟨⟨k + 1, by omega, by go_num, HN, HKN⟩, by simp [intOf]; omega⟩
      · have h1 : (0 : Int) < (k : Int) := by omega
        have HS2 : Hid (l ++ atT x (k + 1) = (l ++ atT x k ++ [32]) ++ tx) := by show _ = _; rw [HS.out, if_neg h0]
        clear HS h0
        have HWb := Lib.hid (w_byte B b (l ++ atT x k) 32 wr HW.out.1 (by rw [List.length_append]; omega) (by omega))
        go_wp2_with fail
        refine HWb.out.mono ?_
        rintro e w1 ⟨rfl, hw1⟩
        have HW1 : Hid (Wrote B b (l ++ atT x k ++ [32]) w w1) := HW.out.then hw1
        have HK1 : Hid (KeepB W0 w1) := HK.out.trans hw1.2.2
        clear hw1 HWb
        go_wp2_with fail
        refine (HTo.out _ HW1.out.2.1).mono ?_
        rintro e w2 ⟨rfl, hb2⟩
        have hz1 := HW1.out.2.1.size
        have hz2 := hb2.size
        have HW2 : Hid (Wrote B b (l ++ atT x k ++ [32]) w w2) := HW1.out.grow hb2 (by omega)
        have HK2 : Hid (KeepB W0 w2) := HK1.out.trans (KeepB.below hb2)
        have HWs := Lib.hid (w_string B b (l ++ atT x k ++ [32]) ⟨tx.toArray⟩ w2 HW2.out.1 (by rw [List.length_append, List.length_append]; show _ + tx.toArray.size ≤ _; rw [List.size_toArray]; simp; omega) (by omega))
        go_wp2_with fail
        refine HWs.out.mono ?_
        rintro e w3 ⟨rfl, hw3⟩
        have HN : Hid (Wrote B b (l ++ atT x (k + 1)) w w3) := by show Wrote _ _ _ _ _; rw [HS2.out]; exact HW2.out.then hw3
        have HKN := Lib.hid (HK2.out.trans hw3.2.2)
        clear hw3 HWs
        go_wp2
        exact ⟨⟨k + 1, by omega, by go_num, HN, HKN⟩, by simp [intOf]; omega⟩
    · obtain rfl : k = ln := by omega
      go_wp2_with fail
      clear l0 l1
      have hAk := HAL.out k (Nat.le_refl _)
      go_loopw [6, 8, 9, 10, 31] (fun sp _ _ _ i wv => ∃ j : Nat, j ≤ vl ∧ sp = .string ⟨(if j = 0 then [58, 32] else [44, 32] : List UInt8).toArray⟩ ∧ i = .int .i64 j ∧ Hid (Wrote B b (l ++ atT x k ++ valsT vk vn vd vs j) w wv) ∧ Hid (KeepB W0 wv)) (fun _ _ _ _ i _ => vl - (intOf i).toNat)
      case atStart => exact ⟨0, Nat.zero_le _, rfl, rfl, by show Wrote B b (_ ++ []) w wr; rw [List.append_nil]; exact HW.out, HK.out⟩
      case round =>
        clear HW HK HX HXR
        obtain ⟨j, hj, rfl, rfl, HW, HK⟩ := hrel
        by_cases hlt : j < vl
        · obtain ⟨bv, ov, rfl, _, hcv⟩ := HV.out wr HW.out.2.1 (by omega)
          obtain ⟨x0, x1, x2, x3⟩ := hcv j hlt
          clear hcv
          have hvj := HVR.out j hlt
          have hsz := HW.out.2.1.size
          have hvl2 := HVL.out j (by omega)
          have hsl : (if j = 0 then [58, 32] else [44, 32] : List UInt8).length = 2 := by split <;> rfl
          have HS : Hid (l ++ atT x k ++ valsT vk vn vd vs (j + 1) = l ++ atT x k ++ valsT vk vn vd vs j ++ ((if j = 0 then [58, 32] else [44, 32]) ++ (prnV (vk j) (vn j) (vd j) (vs j)).data.toList)) := by show _ = _; rw [valsT]; simp only [List.append_assoc]
          have HPr : Hid (∀ W, Below B w W → Calls Tryz.prog 100 #[V (vk j) (vn j) (vd j) (vs j)] W fun e w' => e = .returned (.tuple #[.string (prnV (vk j) (vn j) (vd j) (vs j)), .int .i64 (errB (okB (vk j) (vn j) (vd j) (vs j)))]) ∧ Below W.heap.size W w') := fun W hW => v_Print _ _ _ _ m W (HT.out W hW) (HM.out W hW)
          have HSN : Hid ((if j + 1 = 0 then [58, 32] else [44, 32] : List UInt8) = [44, 32]) := if_neg (by omega)
          generalize (if j = 0 then [58, 32] else [44, 32] : List UInt8) = sep at *
          generalize prnV (vk j) (vn j) (vd j) (vs j) = pv at *
          generalize errB (okB (vk j) (vn j) (vd j) (vs j)) = ev at *
          generalize vk j = k9 at *
          generalize vn j = n9 at *
          generalize vd j = d9 at *
          generalize vs j = s9 at *
          have hba : Below wr.heap.size wr (wr.alloc (.cells #[.int .i64 k9, .int .i64 n9, .int .i64 d9, .string s9] 116)) := (Below.refl _ _).alloc (Nat.le_refl _) _
          have HWa : Hid (Wrote B b (l ++ atT x k ++ valsT vk vn vd vs j) w (wr.alloc (.cells #[.int .i64 k9, .int .i64 n9, .int .i64 d9, .string s9] 116))) := HW.out.grow hba (by omega)
          go_wp2_with fail
          refine (HPr.out _ HWa.out.2.1).mono ?_
          rintro e w1 ⟨rfl, hb1⟩
          have hza := hba.size
          have hzb := hb1.size
          have HW1 : Hid (Wrote B b (l ++ atT x k ++ valsT vk vn vd vs j) w w1) := HWa.out.grow hb1 (by omega)
          have HK1 : Hid (KeepB W0 w1) := (HK.out.trans (KeepB.below hba)).trans (KeepB.below hb1)
          clear hba hb1 HWa
          go_wp2_with fail
          have HWs := Lib.hid (w_string B b (l ++ atT x k ++ valsT vk vn vd vs j) (⟨sep.toArray⟩ ++ pv) w1 HW1.out.1 (by
            have e1 : ((⟨sep.toArray⟩ : ByteArray) ++ pv).size = 2 + pv.size := by rw [ByteArray.size_append]; show sep.toArray.size + _ = _; rw [List.size_toArray, hsl]
            rw [List.length_append, List.length_append, e1]; omega) (by omega))
          refine HWs.out.mono ?_
          rintro e w2 ⟨rfl, hw2⟩
          have HN : Hid (Wrote B b (l ++ atT x k ++ valsT vk vn vd vs (j + 1)) w w2) := by
            show Wrote _ _ _ _ _
            rw [HS.out]
            have e2 : (⟨sep.toArray⟩ ++ pv : ByteArray).data.toList = sep ++ pv.data.toList := by simp [ByteArray.data_append]
            rw [e2] at hw2
            exact HW1.out.then hw2
          have HKN := Lib.hid (HK1.out.trans hw2.2.2)
          clear hw2 HWs
          go_wp2
          exact ⟨⟨j + 1, by omega, by rw [HSN.out], by go_num, HN, HKN⟩, by simp [intOf]; omega⟩
        · obtain rfl : j = vl := by omega
          have hvl2 := HVL.out j (Nat.le_refl _)
          generalize (if j = 0 then [58, 32] else [44, 32] : List UInt8) = sep at *
          have hsz := HW.out.2.1.size
          have HWb := Lib.hid (w_byte B b (l ++ atT x k ++ valsT vk vn vd vs j) 10 wr HW.out.1 (by rw [List.length_append, List.length_append]; omega) (by omega))
          go_wp2_with fail
          refine HWb.out.mono ?_
          rintro e w1 ⟨rfl, hw1⟩
          have HN : Hid (Wrote B b (l ++ cellT x k vk vn vd vs j) w w1) := by
            show Wrote _ _ _ _ _
            have e3 : l ++ cellT x k vk vn vd vs j = l ++ atT x k ++ valsT vk vn vd vs j ++ [10] := by unfold cellT; simp only [List.append_assoc]
            rw [e3]; exact HW.out.then hw1
          clear hw1 HWb
          go_wp2
          go_end0
          exact ⟨rfl, HN.out⟩
end Go.Proofs.YtmhggphkhabjlaaGreatDoor
end
