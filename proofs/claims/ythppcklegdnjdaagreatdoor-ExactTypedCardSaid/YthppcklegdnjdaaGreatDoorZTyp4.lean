/- The type of the result of an operation: every operation, every list of types. -/
import Derived.Test.YthppcklegdnjdaaGreatDoorZFind
import Derived.Test.YthppcklegdnjdaaGreatDoorZTyp

/- The type of the result of an operation: every operation, every list of types. -/
section
namespace Go.Proofs.YthppcklegdnjdaaGreatDoor
open Go.RowKit Go.Deep

def isTy (t : Int) : Bool := decide (1 ≤ t) && decide (t ≤ 4)
def isNum (t : Int) : Bool := t == 2 || t == 3
def cmT (a b : Int) : Int := if a = 0 ∨ a = b then b else if isNum a = true ∧ isNum b = true then 3 else 0

theorem c_isTypeB (t : Int) (w : World) :
    Calls Tryz.prog 51 #[.int .i64 t] w fun e w' => e = .returned (.bool (isTy t)) ∧ w = w' := by
  unfold isTy
  by_cases h1 : 1 ≤ t
  · have h1' : decide (1 ≤ t) = true := by simpa using h1
    rw [h1']
    go_enter Tryz.func51, Tryz.ntmps51
    go_wp2
    go_ret
    exact ⟨rfl, rfl⟩
  · have h1' : decide (1 ≤ t) = false := by simpa using h1
    rw [h1']
    go_enter Tryz.func51, Tryz.ntmps51
    go_wp2
    go_ret
    exact ⟨rfl, rfl⟩

theorem c_isNumericB (t : Int) (w : World) :
    Calls Tryz.prog 94 #[.int .i64 t] w fun e w' => e = .returned (.bool (isNum t)) ∧ w = w' := by
  unfold isNum
  by_cases h1 : t = 2
  · subst h1
    go_enter Tryz.func94, Tryz.ntmps94
    go_wp2
    go_ret
    exact ⟨rfl, rfl⟩
  · have h1' : (t == 2) = false := by rw [beq_eq_false_iff_ne]; exact h1
    rw [h1']
    go_enter Tryz.func94, Tryz.ntmps94
    go_wp2
    go_ret
    exact ⟨rfl, rfl⟩

theorem c_commonTypeB (a b : Int) (w : World) :
    Calls Tryz.prog 95 #[.int .i64 a, .int .i64 b] w fun e w' => e = .returned (.int .i64 (cmT a b)) ∧ w = w' := by
  unfold cmT
  by_cases h1 : a = 0
  · subst h1
    rw [if_pos (.inl rfl)]
    go_enter Tryz.func95, Tryz.ntmps95
    go_wp2
    go_ret
    exact ⟨rfl, rfl⟩
  · have h1' : (a == 0) = false := by rw [beq_eq_false_iff_ne]; exact h1
    by_cases h2 : a = b
    · subst h2
      have h2' : (a == a) = true := by simp
      rw [if_pos (.inr rfl)]
      go_enter Tryz.func95, Tryz.ntmps95
      go_wp2
      go_ret
      exact ⟨rfl, rfl⟩
    · have h2' : (a == b) = false := by rw [beq_eq_false_iff_ne]; exact h2
      rw [if_neg (by omega)]
      have HA := Lib.hid (c_isNumericB a w)
      have HB := Lib.hid (c_isNumericB b w)
      generalize isNum a = p at *
      generalize isNum b = q at *
      cases p <;> cases q
      all_goals
        go_enter Tryz.func95, Tryz.ntmps95
        go_wp2_with fail
        refine HA.out.mono ?_
        rintro e w1 ⟨rfl, rfl⟩
        go_wp2_with fail
        first
        | (refine HB.out.mono ?_
           rintro e w2 ⟨rfl, rfl⟩
           go_wp2
           go_ret
           exact ⟨rfl, rfl⟩)
        | (go_ret
           exact ⟨rfl, rfl⟩)

def stepT (nd sh t : Int) : Option Int := if nd = 2 then (if t = 1 then some sh else none) else if nd = 3 then (if isNum t = true then some (cmT sh t) else none) else if nd = 4 then (if cmT sh t = 0 then none else some (cmT sh t)) else some sh
def foldT (nd ts : Nat → Int) : Nat → Option Int
  | 0 => some 0
  | k + 1 => (foldT nd ts k).bind fun sh => stepT (nd k) sh (ts k)
theorem foldT_none {nd ts : Nat → Int} {k n : Nat} (h : foldT nd ts k = none) (hn : k ≤ n) : foldT nd ts n = none := by
  induction n with
  | zero =>
    obtain rfl : k = 0 := by omega
    exact h
  | succ n ih =>
    by_cases e : k = n + 1
    · rw [← e]; exact h
    · rw [foldT, ih (by omega)]; rfl
def shRes (o : Option Int) : Value := match o with | some s => .tuple #[.int .i64 s, .bool true] | none => .tuple #[.int .i64 0, .bool false]
def n3 (n1 n2 n3 : Int) (k : Nat) : Int := if k = 0 then n1 else if k = 1 then n2 else n3

set_option maxRecDepth 100000 in
set_option maxHeartbeats 4000000 in
theorem c_sharedT (w : World) (A : Option Addr) (n cap : Nat) (c n1 n2 m3 r : Int) (l : Bool) (F : Value) (ts : Nat → Int) (hn : n ≤ 3) (h : 0 < n → ∃ b o, A = some ⟨b, o, none⟩ ∧ b < w.heap.size ∧ ∀ k, k < n → w.cell? ⟨b, o + k, none⟩ = some (.int .i64 (ts k))) :
    Calls Tryz.prog 52 #[.agg #[.int .i64 c, .int .i64 n1, .int .i64 n2, .int .i64 m3, .int .i64 r, .bool l, F], .slice A n cap] w fun e w' => e = .returned (shRes (foldT (n3 n1 n2 m3) ts n)) ∧ Below w.heap.size w w' := by
  go_enter Tryz.func52, Tryz.ntmps52
  go_wp2
  have hrow := heap_alloc_new w (.cells #[.int .i64 c, .int .i64 n1, .int .i64 n2, .int .i64 m3, .int .i64 r, .bool l, F] 89)
  have B0 : Below w.heap.size w (w.alloc (.cells #[.int .i64 c, .int .i64 n1, .int .i64 n2, .int .i64 m3, .int .i64 r, .bool l, F] 89)) := (Below.refl _ _).alloc (Nat.le_refl _) _
  generalize w.alloc (.cells #[.int .i64 c, .int .i64 n1, .int .i64 n2, .int .i64 m3, .int .i64 r, .bool l, F] 89) = W0 at *
  have HN : Hid (∀ k, k < 3 → W0.cell? ⟨w.heap.size, 1 + k, none⟩ = some (.int .i64 (n3 n1 n2 m3 k))) := fun k hk => by
    match k, hk with
    | 0, _ => rw [cell_of_row _ _ _ _ _ _ hrow]; rfl
    | 1, _ => rw [cell_of_row _ _ _ _ _ _ hrow]; rfl
    | 2, _ => rw [cell_of_row _ _ _ _ _ _ hrow]; rfl
  have HT : Hid (∀ k, k < n → ∃ b o, A = some ⟨b, o, none⟩ ∧ W0.cell? ⟨b, o + k, none⟩ = some (.int .i64 (ts k))) := fun k hk => by
    obtain ⟨b, o, h1, h2, h3⟩ := h (by omega)
    exact ⟨b, o, h1, (B0.cell (p := ⟨b, o + k, none⟩) h2).trans (h3 k hk)⟩
  have HB := Lib.hid B0
  clear h hrow B0
  go_loop [6, 11] (fun s i => ∃ (k : Nat) (sh : Int), k ≤ n ∧ i = .int .i64 k ∧ s = .int .i64 sh ∧ Hid (foldT (n3 n1 n2 m3) ts k = some sh)) (fun _ i => n - (intOf i).toNat)
  case atStart => exact ⟨0, 0, Nat.zero_le _, rfl, rfl, rfl⟩
  case round =>
    obtain ⟨k, sh, hk, rfl, rfl, HF⟩ := hrel
    by_cases hlt : k < n
    · obtain ⟨b, o, rfl, hc⟩ := HT.out k hlt
      have hk3 : k < 3 := by omega
      have hd := HN.out k hk3
      have HS : Hid (foldT (n3 n1 n2 m3) ts (k + 1) = stepT (n3 n1 n2 m3 k) sh (ts k)) := by show _ = _; rw [foldT, HF.out]; rfl
      have HX : Hid (∀ s, stepT (n3 n1 n2 m3 k) sh (ts k) = none → foldT (n3 n1 n2 m3) ts n = none ∨ s = 0) := fun s e => .inl (foldT_none (k := k + 1) (by rw [HS.out, e]) (by omega))
      have HC := Lib.hid (c_commonTypeB sh (ts k) W0)
      have HNm := Lib.hid (c_isNumericB (ts k) W0)
      generalize n3 n1 n2 m3 k = nd at *
      generalize ts k = t at *
      by_cases e2 : nd = 2
      · subst e2
        by_cases e1 : t = 1
        · subst e1
          go_wp2
          go_round
          case rel => exact ⟨k + 1, sh, by omega, by go_num, rfl, by show _ = _; rw [HS.out]; rfl⟩
          case measure => simp [intOf]; omega
        · have e1' : (t != 1) = true := by rw [bne_iff_ne]; exact e1
          have HE : Hid (foldT (n3 n1 n2 m3) ts n = none) := foldT_none (k := k + 1) (by rw [HS.out]; simp [stepT, e1]) (by omega)
          go_wp2
          go_ret2
          exact ⟨by rw [HE.out]; rfl, HB.out⟩
      · have e2' : (nd == 2) = false := by rw [beq_eq_false_iff_ne]; exact e2
        by_cases e3 : nd = 3
        · subst e3
          by_cases e1 : isNum t = true
          · have HE : Hid (stepT 3 sh t = some (cmT sh t)) := by show _ = _; simp [stepT, e1]
            rw [e1] at HNm
            go_wp2_with fail
            refine HNm.out.mono ?_
            rintro e w1 ⟨rfl, rfl⟩
            go_wp2_with fail
            refine HC.out.mono ?_
            rintro e w1 ⟨rfl, rfl⟩
            go_wp2
            go_round
            case rel => exact ⟨k + 1, cmT sh t, by omega, by go_num, rfl, by show _ = _; rw [HS.out, HE.out]⟩
            case measure => simp [intOf]; omega
          · have HE : Hid (foldT (n3 n1 n2 m3) ts n = none) := foldT_none (k := k + 1) (by rw [HS.out]; simp [stepT, e1]) (by omega)
            have e1' : isNum t = false := by simpa using e1
            rw [e1'] at HNm
            go_wp2_with fail
            refine HNm.out.mono ?_
            rintro e w1 ⟨rfl, rfl⟩
            go_wp2
            go_ret2
            exact ⟨by rw [HE.out]; rfl, HB.out⟩
        · have e3' : (nd == 3) = false := by rw [beq_eq_false_iff_ne]; exact e3
          by_cases e4 : nd = 4
          · subst e4
            by_cases e1 : cmT sh t = 0
            · have HE : Hid (foldT (n3 n1 n2 m3) ts n = none) := foldT_none (k := k + 1) (by rw [HS.out]; simp [stepT, e1]) (by omega)
              rw [e1] at HC
              go_wp2_with fail
              refine HC.out.mono ?_
              rintro e w1 ⟨rfl, rfl⟩
              go_wp2
              go_ret2
              exact ⟨by rw [HE.out]; rfl, HB.out⟩
            · have HE : Hid (stepT 4 sh t = some (cmT sh t)) := by show _ = _; simp [stepT, e1]
              have e1' : (cmT sh t == 0) = false := by rw [beq_eq_false_iff_ne]; exact e1
              generalize cmT sh t = cm at *
              go_wp2_with fail
              refine HC.out.mono ?_
              rintro e w1 ⟨rfl, rfl⟩
              go_wp2
              go_round
              case rel => exact ⟨k + 1, cm, by omega, by go_num, rfl, by show _ = _; rw [HS.out, HE.out]⟩
              case measure => simp [intOf]; omega
          · have e4' : (nd == 4) = false := by rw [beq_eq_false_iff_ne]; exact e4
            have HE : Hid (stepT nd sh t = some sh) := by show _ = _; simp [stepT, e2, e3, e4]
            go_wp2
            go_round
            case rel => exact ⟨k + 1, sh, by omega, by go_num, rfl, by show _ = _; rw [HS.out, HE.out]⟩
            case measure => simp [intOf]; omega
    · obtain rfl : k = n := by omega
      go_wp2
      go_ret2
      exact ⟨by rw [HF.out]; rfl, HB.out⟩
end Go.Proofs.YthppcklegdnjdaaGreatDoor
end

/- The type of the result of an operation: the call. -/
section
namespace Go.Proofs.YthppcklegdnjdaaGreatDoor
open Go.RowKit Go.Deep

def Ints (w : World) (A : Option Addr) (n : Nat) (ts : Nat → Int) : Prop := 0 < n → ∃ b o, A = some ⟨b, o, none⟩ ∧ b < w.heap.size ∧ ∀ k, k < n → w.cell? ⟨b, o + k, none⟩ = some (.int .i64 (ts k))
theorem Ints.below {w W : World} {A : Option Addr} {n : Nat} {ts : Nat → Int} (h : Ints w A n ts) (hW : Below w.heap.size w W) : Ints W A n ts := fun hn => by
  obtain ⟨b, o, h1, h2, h3⟩ := h hn
  exact ⟨b, o, h1, Nat.lt_of_lt_of_le h2 hW.size, fun k hk => (hW.cell (p := ⟨b, o + k, none⟩) h2).trans (h3 k hk)⟩
def allTy (n : Nat) (ts : Nat → Int) : Prop := ∀ k, k < n → isTy (ts k) = true
def tyRes (r : Int) (o : Option Int) : Value := match o with | none => .tuple #[.int .i64 0, .int .i64 12] | some s => if r = 0 then .tuple #[.int .i64 s, .int .i64 0] else .tuple #[.int .i64 r, .int .i64 0]

set_option maxRecDepth 100000 in
set_option maxHeartbeats 4000000 in
theorem t_found (w : World) (op : Int) (A : Option Addr) (n cap : Nat) (c n1 n2 m3 r : Int) (l : Bool) (F : Nat) (ts : Nat → Int) (hn : n ≤ 3) (h : Ints w A n ts)
    (HF0 : ∀ W, Calls Tryz.prog 50 #[.int .i64 op, .int .i64 n] W fun e w' => e = .returned (.tuple #[.agg (o7 c n1 n2 m3 r l F).toArray, .bool true]) ∧ Below W.heap.size W w') :
    Calls Tryz.prog 16 #[.int .i64 op, .slice A n cap] w fun e w' => ((allTy n ts → e = .returned (tyRes r (foldT (n3 n1 n2 m3) ts n))) ∧ (¬ allTy n ts → e = .returned (.tuple #[.int .i64 0, .int .i64 2]))) ∧ Below w.heap.size w w' := by
  have HF := Lib.hid HF0
  have K0 := Lib.hid h
  clear h HF0
  go_enter Tryz.func16, Tryz.ntmps16
  go_wp2_with fail
  refine (HF.out _).mono ?_
  rintro e w1 ⟨rfl, hb1⟩
  have B1 : Hid (Below w.heap.size w w1) := hb1
  have hz1 : w.heap.size ≤ w1.heap.size := hb1.size
  clear hb1 HF
  simp only [o7]
  go_wp2_with (first | (refine wpList_store_row 89 _ _ rfl rfl rfl w1.heap.size 89 rfl (o7 c n1 n2 m3 r l F) rfl _ (heap_alloc_new w1 _) rfl info_op (o7_one _ _ _ _ _ _ _) ?_; intro w2 hh2 hg2 hz2; have B2 : Hid (Below w.heap.size w w2) := (B1.out.alloc (by omega) _).grown hg2 (by simp; omega) (fun j hj => by injection hj with hj; omega); have hl2 : w1.heap.size < w2.heap.size := (by rw [hz2]; simp); have HL2 := Lib.hid hh2; clear hz2 hg2 hh2))
  have K : Hid (∀ W, Below w2.heap.size w2 W → W.heap[w1.heap.size]? = some (.cells (o7 c n1 n2 m3 r l F).toArray 89 (0, 0))) := fun W hW => (hW.block _ hl2).trans HL2.out
  have KL : Hid (Ints w2 A n ts) := K0.out.below B2.out
  clear HL2
  go_wp2
  go_loop [22] (fun i => ∃ k : Nat, k ≤ n ∧ i = .int .i64 k ∧ Hid (∀ j, j < k → isTy (ts j) = true)) (fun i => n - (intOf i).toNat)
  case atStart => exact ⟨0, Nat.zero_le _, rfl, fun j hj => absurd hj (by omega)⟩
  case round =>
    obtain ⟨k, hk, rfl, HA⟩ := hrel
    by_cases hlt : k < n
    · obtain ⟨b, o, rfl, _, hc'⟩ := KL.out (by omega)
      have hc := hc' k hlt
      clear hc'
      have HC := Lib.hid (c_isTypeB (ts k) w2)
      by_cases e1 : isTy (ts k) = true
      · have HA' : Hid (∀ j, j < k + 1 → isTy (ts j) = true) := fun j hj => by
          by_cases e : j = k
          · rw [e]; exact e1
          · exact HA.out j (by omega)
        rw [e1] at HC
        generalize ts k = t at *
        go_wp2_with fail
        refine HC.out.mono ?_
        rintro e w5 ⟨rfl, rfl⟩
        go_wp2
        go_round
        case rel => exact ⟨k + 1, by omega, by go_num, HA'⟩
        case measure => simp [intOf]; omega
      · have HE : Hid (¬ allTy n ts) := fun h => e1 (h k hlt)
        have e1' : isTy (ts k) = false := by simpa using e1
        rw [e1'] at HC
        generalize ts k = t at *
        go_wp2_with fail
        refine HC.out.mono ?_
        rintro e w5 ⟨rfl, rfl⟩
        go_wp2
        go_ret2
        exact ⟨⟨fun h => absurd h HE.out, fun _ => rfl⟩, B2.out⟩
    · obtain rfl : k = n := by omega
      have HAll : Hid (allTy k ts) := HA.out
      have HSh := Lib.hid (c_sharedT w2 A k cap c n1 n2 m3 r l (.func (.func F) #[] #[]) ts hn KL.out)
      obtain ⟨fo, hfo⟩ : ∃ fo, foldT (n3 n1 n2 m3) ts k = fo := ⟨_, rfl⟩
      rw [hfo] at HSh
      have HFO := Lib.hid hfo
      clear hfo
      have hk5 := K.out _ (Below.refl _ _)
      have o0 : w2.cell? ⟨w1.heap.size, 0, none⟩ = some (.int .i64 c) := by rw [cell_of_row _ _ _ _ _ _ hk5]; rfl
      have o1 : w2.cell? ⟨w1.heap.size, 1, none⟩ = some (.int .i64 n1) := by rw [cell_of_row _ _ _ _ _ _ hk5]; rfl
      have o2 : w2.cell? ⟨w1.heap.size, 2, none⟩ = some (.int .i64 n2) := by rw [cell_of_row _ _ _ _ _ _ hk5]; rfl
      have o3 : w2.cell? ⟨w1.heap.size, 3, none⟩ = some (.int .i64 m3) := by rw [cell_of_row _ _ _ _ _ _ hk5]; rfl
      have o4 : w2.cell? ⟨w1.heap.size, 4, none⟩ = some (.int .i64 r) := by rw [cell_of_row _ _ _ _ _ _ hk5]; rfl
      have o5 : w2.cell? ⟨w1.heap.size, 5, none⟩ = some (.bool l) := by rw [cell_of_row _ _ _ _ _ _ hk5]; rfl
      have o6 : w2.cell? ⟨w1.heap.size, 6, none⟩ = some (.func (.func F) #[] #[]) := by rw [cell_of_row _ _ _ _ _ _ hk5]; rfl
      clear hk5
      go_wp2_with fail
      refine HSh.out.mono ?_
      rintro e w5 ⟨rfl, hb5⟩
      have B5 : Hid (Below w.heap.size w w5) := btr B2.out hb5
      have hk5 := K.out _ hb5
      clear o0 o1 o2 o3 o4 o5 o6 hb5 HSh
      have o0 : w5.cell? ⟨w1.heap.size, 0, none⟩ = some (.int .i64 c) := by rw [cell_of_row _ _ _ _ _ _ hk5]; rfl
      have o1 : w5.cell? ⟨w1.heap.size, 1, none⟩ = some (.int .i64 n1) := by rw [cell_of_row _ _ _ _ _ _ hk5]; rfl
      have o2 : w5.cell? ⟨w1.heap.size, 2, none⟩ = some (.int .i64 n2) := by rw [cell_of_row _ _ _ _ _ _ hk5]; rfl
      have o3 : w5.cell? ⟨w1.heap.size, 3, none⟩ = some (.int .i64 m3) := by rw [cell_of_row _ _ _ _ _ _ hk5]; rfl
      have o4 : w5.cell? ⟨w1.heap.size, 4, none⟩ = some (.int .i64 r) := by rw [cell_of_row _ _ _ _ _ _ hk5]; rfl
      have o5 : w5.cell? ⟨w1.heap.size, 5, none⟩ = some (.bool l) := by rw [cell_of_row _ _ _ _ _ _ hk5]; rfl
      have o6 : w5.cell? ⟨w1.heap.size, 6, none⟩ = some (.func (.func F) #[] #[]) := by rw [cell_of_row _ _ _ _ _ _ hk5]; rfl
      clear hk5
      cases fo with
      | none =>
        simp only [shRes]
        go_wp2
        go_ret2
        exact ⟨⟨fun _ => by rw [HFO.out]; rfl, fun h => absurd HAll.out h⟩, B5.out⟩
      | some s =>
        simp only [shRes]
        by_cases er : r = 0
        · subst er
          go_wp2
          go_ret2
          exact ⟨⟨fun _ => by rw [HFO.out]; rfl, fun h => absurd HAll.out h⟩, B5.out⟩
        · have er' : (r == 0) = false := by rw [beq_eq_false_iff_ne]; exact er
          have HR : Hid (tyRes r (some s) = .tuple #[.int .i64 r, .int .i64 0]) := if_neg er
          go_wp2
          go_ret2
          exact ⟨⟨fun _ => by rw [HFO.out, HR.out]; rfl, fun h => absurd HAll.out h⟩, B5.out⟩
end Go.Proofs.YthppcklegdnjdaaGreatDoor
end

/- The type of the result of an operation: every operation. -/
section
namespace Go.Proofs.YthppcklegdnjdaaGreatDoor
open Go.RowKit Go.Deep

set_option maxRecDepth 100000 in
set_option maxHeartbeats 4000000 in
theorem t_none (w : World) (op : Int) (A : Option Addr) (n cap : Nat) (h : opn op = 0 ∨ opn op ≠ n) :
    Calls Tryz.prog 16 #[.int .i64 op, .slice A n cap] w fun e w' => e = .returned (.tuple #[.int .i64 0, .int .i64 2]) ∧ Below w.heap.size w w' := by
  have HF := Lib.hid (fun W => f_none W op n (by omega) h)
  clear h
  go_enter Tryz.func16, Tryz.ntmps16
  go_wp2_with fail
  refine (HF.out _).mono ?_
  rintro e w1 ⟨rfl, hb1⟩
  have B1 : Hid (Below w.heap.size w w1) := hb1
  have hz1 : w.heap.size ≤ w1.heap.size := hb1.size
  clear hb1 HF
  go_wp2_with (first | (refine wpList_store_row 89 _ _ rfl rfl rfl w1.heap.size 89 rfl z7 rfl _ (heap_alloc_new w1 _) rfl info_op z7_one ?_; intro w2 hh2 hg2 hz2; have B2 : Hid (Below w.heap.size w w2) := (B1.out.alloc (by omega) _).grown hg2 (by simp; omega) (fun j hj => by injection hj with hj; omega); have hl2 : w1.heap.size < w2.heap.size := (by rw [hz2]; simp); have HL2 := Lib.hid hh2; clear hz2 hg2 hh2))
  go_ret2
  exact ⟨rfl, B2.out⟩

/-- What an operation needs of its operands, and what its result is. -/
def rowN (op : Int) : Nat → Int := if op = 4 then n3 2 0 0 else if op = 5 ∨ op = 6 then n3 3 0 0 else if op = 7 ∨ op = 8 then n3 1 0 0 else if 9 ≤ op ∧ op ≤ 12 then n3 3 3 0 else if 13 ≤ op ∧ op ≤ 18 then n3 4 4 0 else if op = 19 ∨ op = 20 then n3 2 2 0 else if op = 21 then n3 4 4 0 else n3 2 4 4
def rowR (op : Int) : Int := if op = 4 ∨ op = 7 ∨ (13 ≤ op ∧ op ≤ 20) then 1 else if op = 6 ∨ op = 8 then 2 else if op = 12 then 3 else 0

theorem c_Type (w : World) (op : Int) (A : Option Addr) (n cap : Nat) (ts : Nat → Int) (h : Ints w A n ts) (h1 : opn op = n) (h2 : n ≠ 0) :
    Calls Tryz.prog 16 #[.int .i64 op, .slice A n cap] w fun e w' => ((allTy n ts → e = .returned (tyRes (rowR op) (foldT (rowN op) ts n))) ∧ (¬ allTy n ts → e = .returned (.tuple #[.int .i64 0, .int .i64 2]))) ∧ Below w.heap.size w w' := by
  have hk : op = 4 ∨ op = 5 ∨ op = 6 ∨ op = 7 ∨ op = 8 ∨ op = 9 ∨ op = 10 ∨ op = 11 ∨ op = 12 ∨ op = 13 ∨ op = 14 ∨ op = 15 ∨ op = 16 ∨ op = 17 ∨ op = 18 ∨ op = 19 ∨ op = 20 ∨ op = 21 ∨ op = 22 := by unfold opn at h1; split at h1 <;> omega
  rcases hk with rfl | rfl | rfl | rfl | rfl | rfl | rfl | rfl | rfl | rfl | rfl | rfl | rfl | rfl | rfl | rfl | rfl | rfl | rfl
  · obtain rfl : n = 1 := by simp [opn] at h1; omega
    exact t_found w 4 A 1 cap 1 2 0 0 1 false _ ts (by omega) h (fun W => f_op4 W)
  · obtain rfl : n = 1 := by simp [opn] at h1; omega
    exact t_found w 5 A 1 cap 1 3 0 0 0 false _ ts (by omega) h (fun W => f_op5 W)
  · obtain rfl : n = 1 := by simp [opn] at h1; omega
    exact t_found w 6 A 1 cap 1 3 0 0 2 false _ ts (by omega) h (fun W => f_op6 W)
  · obtain rfl : n = 1 := by simp [opn] at h1; omega
    exact t_found w 7 A 1 cap 1 1 0 0 1 true _ ts (by omega) h (fun W => f_op7 W)
  · obtain rfl : n = 1 := by simp [opn] at h1; omega
    exact t_found w 8 A 1 cap 1 1 0 0 2 true _ ts (by omega) h (fun W => f_op8 W)
  · obtain rfl : n = 2 := by simp [opn] at h1; omega
    exact t_found w 9 A 2 cap 2 3 3 0 0 false _ ts (by omega) h (fun W => f_op9 W)
  · obtain rfl : n = 2 := by simp [opn] at h1; omega
    exact t_found w 10 A 2 cap 2 3 3 0 0 false _ ts (by omega) h (fun W => f_op10 W)
  · obtain rfl : n = 2 := by simp [opn] at h1; omega
    exact t_found w 11 A 2 cap 2 3 3 0 0 false _ ts (by omega) h (fun W => f_op11 W)
  · obtain rfl : n = 2 := by simp [opn] at h1; omega
    exact t_found w 12 A 2 cap 2 3 3 0 3 false _ ts (by omega) h (fun W => f_op12 W)
  · obtain rfl : n = 2 := by simp [opn] at h1; omega
    exact t_found w 13 A 2 cap 2 4 4 0 1 false _ ts (by omega) h (fun W => f_op13 W)
  · obtain rfl : n = 2 := by simp [opn] at h1; omega
    exact t_found w 14 A 2 cap 2 4 4 0 1 false _ ts (by omega) h (fun W => f_op14 W)
  · obtain rfl : n = 2 := by simp [opn] at h1; omega
    exact t_found w 15 A 2 cap 2 4 4 0 1 false _ ts (by omega) h (fun W => f_op15 W)
  · obtain rfl : n = 2 := by simp [opn] at h1; omega
    exact t_found w 16 A 2 cap 2 4 4 0 1 false _ ts (by omega) h (fun W => f_op16 W)
  · obtain rfl : n = 2 := by simp [opn] at h1; omega
    exact t_found w 17 A 2 cap 2 4 4 0 1 false _ ts (by omega) h (fun W => f_op17 W)
  · obtain rfl : n = 2 := by simp [opn] at h1; omega
    exact t_found w 18 A 2 cap 2 4 4 0 1 false _ ts (by omega) h (fun W => f_op18 W)
  · obtain rfl : n = 2 := by simp [opn] at h1; omega
    exact t_found w 19 A 2 cap 2 2 2 0 1 true _ ts (by omega) h (fun W => f_op19 W)
  · obtain rfl : n = 2 := by simp [opn] at h1; omega
    exact t_found w 20 A 2 cap 2 2 2 0 1 true _ ts (by omega) h (fun W => f_op20 W)
  · obtain rfl : n = 2 := by simp [opn] at h1; omega
    exact t_found w 21 A 2 cap 2 4 4 0 0 true _ ts (by omega) h (fun W => f_op21 W)
  · obtain rfl : n = 3 := by simp [opn] at h1; omega
    exact t_found w 22 A 3 cap 3 2 4 4 0 true _ ts (by omega) h (fun W => f_op22 W)
end Go.Proofs.YthppcklegdnjdaaGreatDoor
end
