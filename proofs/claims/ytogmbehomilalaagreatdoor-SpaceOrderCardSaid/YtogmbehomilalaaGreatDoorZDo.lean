/- The digits of numbers below 100. -/
import Derived.Test.YtogmbehomilalaaGreatDoorZRangeOwn
import Derived.Laws.Rows

/- The digits of numbers below 100. -/
section
namespace Go.Proofs.YtogmbehomilalaaGreatDoor
open Go.RowKit Go.Deep

set_option maxHeartbeats 400000 in
theorem c_iFormatUint_small (x : Nat) (w : World) (hx : x < 100) :
    Calls Tryz.prog 202 #[U x, .int .i64 10] w fun e w' => e = .returned (.string ⟨(Lib.decDigits x).toArray⟩) ∧ w = w' := by
  have HS := Lib.hid (Tryz.internal_strconv_small x hx w)
  have hx1 : (x : Int) < 100 := by omega
  clear hx
  go_enter Tryz.func202, Tryz.ntmps202
  go_wp2_with fail
  refine HS.out.mono ?_
  rintro e w' ⟨rfl, rfl⟩
  go_wp2
  go_ret
  exact ⟨rfl, rfl⟩
theorem ret_s {a b : ByteArray} (h : a = b) : Ending.returned (.string a) = .returned (.string b) := by rw [h]
theorem info_str : (Tryz.prog.info? 9).map (fun i => (i.zero, i.size, i.bytes)) = some (some (.string ⟨#[]⟩), 1, 16) := by kernel_rfl

set_option maxHeartbeats 400000 in
theorem c_decimal_zero (w : World) (v : Value) (h : NatAt w v 0) :
    Calls Tryz.prog 167 #[v] w fun e w' => e = .returned (.string ⟨(Lib.decDigits 0).toArray⟩) ∧ Below w.heap.size w w' := by
  obtain ⟨A, c, rfl, h1, h2, h3⟩ := h
  rw [nw_zero]
  have HD : Hid (Lib.decDigits 0 = [48]) := by show _ = _; rw [Lib.decDigits]; rfl
  clear h1 h2 h3
  go_enter Tryz.func167, Tryz.ntmps167
  go_wp2
  go_ret
  exact ⟨by rw [HD.out]; rfl, Below.refl _ _⟩
/-- The string of a number, as bytes. -/
def ratText (neg : Bool) (n d : Nat) : List UInt8 := (if neg then [45] else []) ++ Lib.decDigits n ++ (if d = 1 then [] else 47 :: Lib.decDigits d)

end Go.Proofs.YtogmbehomilalaaGreatDoor
end

/- Adding, the integer below a number, lengths: what each call returns. -/
section
namespace Go.Proofs.YtogmbehomilalaaGreatDoor
open Go.RowKit Go.Deep

end Go.Proofs.YtogmbehomilalaaGreatDoor
end

/- Values of cells: small makers, validity, order. -/
section
namespace Go.Proofs.YtogmbehomilalaaGreatDoor
open Go.RowKit Go.Deep

/-- A value: its Kind, N, D and S. -/
abbrev V (k n d : Int) (s : ByteArray) : Value := .agg #[.int .i64 k, .int .i64 n, .int .i64 d, .string s]
abbrev noS : ByteArray := ⟨#[]⟩

set_option maxHeartbeats 400000 in
theorem c_missing (n : Int) (w : World) :
    Calls Tryz.prog 138 #[.int .i64 n] w fun e w' => e = .returned (V 0 n 0 noS) ∧ Below w.heap.size w w' := by
  go_enter Tryz.func138, Tryz.ntmps138
  go_wp2
  exact bodyPost_ret (v := V 0 n 0 noS) (by simp [results, Tryz.results138, go_sem]) rfl ⟨rfl, (Below.refl _ _).alloc (Nat.le_refl _) _⟩
def bit (b : Bool) : Int := if b then 1 else 0
set_option maxHeartbeats 400000 in
theorem c_truth (b : Bool) (w : World) :
    Calls Tryz.prog 139 #[.bool b] w fun e w' => e = .returned (V 1 (bit b) 0 noS) ∧ Below w.heap.size w w' := by
  cases b
  · go_enter Tryz.func139, Tryz.ntmps139
    go_wp2
    exact bodyPost_ret (v := V 1 0 0 noS) (by simp [results, Tryz.results139, go_sem]) rfl ⟨rfl, (Below.refl _ _).alloc (Nat.le_refl _) _⟩
  · go_enter Tryz.func139, Tryz.ntmps139
    go_wp2
    exact bodyPost_ret (v := V 1 1 0 noS) (by simp [results, Tryz.results139, go_sem]) rfl ⟨rfl, (Below.refl _ _).alloc (Nat.le_refl _) _⟩

/-- What a box of a value gives: its four cells, in a world that is as the old one below. -/
theorem box_facts (w : World) (k n d : Int) (s : ByteArray) : ∃ W b, w.alloc (.cells #[.int .i64 k, .int .i64 n, .int .i64 d, .string s] 40) = W ∧ w.heap.size = b ∧ b < W.heap.size ∧ Below w.heap.size w W ∧
    Hid (∀ W', Below W.heap.size W W' → W'.cell? ⟨b, 0, none⟩ = some (.int .i64 k) ∧ W'.cell? ⟨b, 1, none⟩ = some (.int .i64 n) ∧ W'.cell? ⟨b, 2, none⟩ = some (.int .i64 d) ∧ W'.cell? ⟨b, 3, none⟩ = some (.string s)) := by
  refine ⟨_, _, rfl, rfl, by simp, (Below.refl _ _).alloc (Nat.le_refl _) _, fun W' hW => ?_⟩
  have hh := heap_alloc_new w (.cells #[.int .i64 k, .int .i64 n, .int .i64 d, .string s] 40)
  have hl : w.heap.size < (w.alloc (.cells #[.int .i64 k, .int .i64 n, .int .i64 d, .string s] 40)).heap.size := by simp
  refine ⟨(hW.cell (p := ⟨w.heap.size, 0, none⟩) hl).trans ?_, (hW.cell (p := ⟨w.heap.size, 1, none⟩) hl).trans ?_, (hW.cell (p := ⟨w.heap.size, 2, none⟩) hl).trans ?_, (hW.cell (p := ⟨w.heap.size, 3, none⟩) hl).trans ?_⟩ <;> (rw [cell_of_row _ _ _ _ _ _ hh]; rfl)

/-- Numerator and denominator of a numeric value. -/
def Low (n d : Int) : Prop := -1099511627776 ≤ n ∧ n ≤ 1099511627776 ∧ 1 ≤ d ∧ d ≤ 1099511627776 ∧ Nat.gcd n.natAbs d.natAbs = 1
set_option maxHeartbeats 1000000 in
theorem c_lowest (n d : Int) (w : World) (h : Low n d) :
    Calls Tryz.prog 140 #[.int .i64 n, .int .i64 d] w fun e w' => e = .returned (.bool true) ∧ ∃ k, w' = w.drewN k := by
  obtain ⟨h1, h2, h3, h4, h5⟩ := h
  have HA := Lib.hid (c_absolute n w (by omega) (by omega))
  have HG : Hid (∀ W, Calls Tryz.prog 172 #[U n.natAbs, .int .u64 d] W fun e w' => e = .returned (.int .u64 1) ∧ ∃ k, w' = W.drewN k) := by
    intro W
    have h9 := c_commonWord n.natAbs d.natAbs W
    rw [h5, show U d.natAbs = .int .u64 d from by show Value.int _ _ = _; congr 1; omega] at h9
    exact h9
  clear h5
  go_enter Tryz.func140, Tryz.ntmps140
  go_wp2_with fail
  refine HA.out.mono ?_
  rintro e w' ⟨rfl, rfl⟩
  clear HA
  go_wp2_with fail
  refine (HG.out _).mono ?_
  rintro e w' ⟨rfl, k, rfl⟩
  go_wp2
  go_ret
  exact ⟨rfl, k, rfl⟩

/-- Bytes that may stand in the text of a value. -/
def Txt (s : ByteArray) : Prop := s.size ≤ 16 ∧ ∀ i (h : i < s.size), 32 ≤ (s[i].toNat : Int) ∧ (s[i].toNat : Int) ≤ 126
set_option maxHeartbeats 1000000 in
theorem c_printable (s : ByteArray) (w : World) (h : Txt s) :
    Calls Tryz.prog 141 #[.string s] w fun e w' => e = .returned (.bool true) ∧ w = w' := by
  obtain ⟨h1, h2⟩ := h
  have H2 := Lib.hid h2
  clear h2
  go_enter Tryz.func141, Tryz.ntmps141
  go_wp2
  go_loop [3, 9] (fun _ i => ∃ k : Nat, k ≤ s.size ∧ i = .int .i64 k) (fun _ i => s.size - (intOf i).toNat)
  case atStart => exact ⟨0, Nat.zero_le _, rfl⟩
  case round =>
    obtain ⟨k, hk, rfl⟩ := hrel
    by_cases hlt : k < s.size
    · obtain ⟨g1, g2⟩ := H2.out k hlt
      go_wp2
      go_round
      case rel => exact ⟨k + 1, by omega, by go_num⟩
      case measure => simp [intOf]; omega
    · go_wp2
      go_ret
      exact ⟨rfl, rfl⟩

/-- What makes a value valid here: a reason, a Boolean, a number, or a text. -/
inductive Good : Int → Int → Int → ByteArray → Prop
  | missing (n : Int) (h1 : 1 ≤ n) (h2 : n ≤ 255) : Good 0 n 0 noS
  | truth (t : Bool) : Good 1 (bit t) 0 noS
  | num (n d : Int) (h : Low n d) : Good 2 n d noS
  | text (s : ByteArray) (h : Txt s) : Good 3 0 0 s
end Go.Proofs.YtogmbehomilalaaGreatDoor
end

/- The order of values: of different kinds; the chapter's examples. -/
section
namespace Go.Proofs.YtogmbehomilalaaGreatDoor
open Go.RowKit Go.Deep

end Go.Proofs.YtogmbehomilalaaGreatDoor
end

/- The table of operations: its rows, and how one is found. -/
section
namespace Go.Proofs.YtogmbehomilalaaGreatDoor
open Go.RowKit Go.Deep

def o7 (c n1 n2 n3 r : Int) (l : Bool) (f : Nat) : List Value := [.int .i64 c, .int .i64 n1, .int .i64 n2, .int .i64 n3, .int .i64 r, .bool l, .func (.func f) #[] #[]]
end Go.Proofs.YtogmbehomilalaaGreatDoor
end

/- Finding an operation by its number and its number of operands. -/
section
namespace Go.Proofs.YtogmbehomilalaaGreatDoor
open Go.RowKit Go.Deep

end Go.Proofs.YtogmbehomilalaaGreatDoor
end

/- Whether values suit an operation; missing values. -/
section
namespace Go.Proofs.YtogmbehomilalaaGreatDoor
open Go.RowKit Go.Deep

/-- The four cells of a value at an address. -/
def ValIn (w : World) (b o : Nat) (k n d : Int) (s : ByteArray) : Prop := w.cell? ⟨b, o, none⟩ = some (.int .i64 k) ∧ w.cell? ⟨b, o + 1, none⟩ = some (.int .i64 n) ∧ w.cell? ⟨b, o + 2, none⟩ = some (.int .i64 d) ∧ w.cell? ⟨b, o + 3, none⟩ = some (.string s)
theorem ValIn.below {w w' : World} {B b o : Nat} {k n d : Int} {s : ByteArray} (h : ValIn w b o k n d s) (hb : Below B w w') (hl : b < B) : ValIn w' b o k n d s :=
  ⟨(hb.cell (p := ⟨b, o, none⟩) hl).trans h.1, (hb.cell (p := ⟨b, o + 1, none⟩) hl).trans h.2.1, (hb.cell (p := ⟨b, o + 2, none⟩) hl).trans h.2.2.1, (hb.cell (p := ⟨b, o + 3, none⟩) hl).trans h.2.2.2⟩

end Go.Proofs.YtogmbehomilalaaGreatDoor
end

/- What the operations compute, where values are missing or Booleans. -/
section
namespace Go.Proofs.YtogmbehomilalaaGreatDoor
open Go.RowKit Go.Deep

end Go.Proofs.YtogmbehomilalaaGreatDoor
end

/- Operations done on values. -/
section
namespace Go.Proofs.YtogmbehomilalaaGreatDoor
open Go.RowKit Go.Deep

end Go.Proofs.YtogmbehomilalaaGreatDoor
end
