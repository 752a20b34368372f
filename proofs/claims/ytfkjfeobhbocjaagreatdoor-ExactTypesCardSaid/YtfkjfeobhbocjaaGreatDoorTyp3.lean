/- The type of the result of an operation: the call. -/
import Derived.Test.YtfkjfeobhbocjaaGreatDoorTyp2
namespace Go.Proofs.YtfkjfeobhbocjaaGreatDoor
open Go.RowKit Go.Deep

def Ints (w : World) (A : Option Addr) (n : Nat) (ts : Nat → Int) : Prop := 0 < n → ∃ b o, A = some ⟨b, o, none⟩ ∧ b < w.heap.size ∧ ∀ k, k < n → w.cell? ⟨b, o + k, none⟩ = some (.int .i64 (ts k))
theorem Ints.below {w W : World} {A : Option Addr} {n : Nat} {ts : Nat → Int} (h : Ints w A n ts) (hW : Below w.heap.size w W) : Ints W A n ts := fun hn => by
  obtain ⟨b, o, h1, h2, h3⟩ := h hn
  exact ⟨b, o, h1, Nat.lt_of_lt_of_le h2 hW.size, fun k hk => (hW.cell (p := ⟨b, o + k, none⟩) h2).trans (h3 k hk)⟩
def allTy (n : Nat) (ts : Nat → Int) : Prop := ∀ k, k < n → isTy (ts k) = true
def tyRes (r : Int) (o : Option Int) : Value := match o with | none => .tuple #[.int .i64 0, .int .i64 12] | some s => if r = 0 then .tuple #[.int .i64 s, .int .i64 0] else .tuple #[.int .i64 r, .int .i64 0]

set_option maxRecDepth 100000 in
set_option maxHeartbeats 4000000 in
theorem t_found (w : World) (op : Int) (A : Option Addr) (n cap : Nat) (c n1 n2 m3 r : Int) (l : Bool) (F : Nat) (ts : Nat → Int) (hn : n ≤ 3) (h : Ints w A n ts)
    (HF0 : ∀ W, Calls Tryz.prog 33 #[.int .i64 op, .int .i64 n] W fun e w' => e = .returned (.tuple #[.agg (o7 c n1 n2 m3 r l F).toArray, .bool true]) ∧ Below W.heap.size W w') :
    Calls Tryz.prog 7 #[.int .i64 op, .slice A n cap] w fun e w' => ((allTy n ts → e = .returned (tyRes r (foldT (n3 n1 n2 m3) ts n))) ∧ (¬ allTy n ts → e = .returned (.tuple #[.int .i64 0, .int .i64 2]))) ∧ Below w.heap.size w w' := by
  have HF := Lib.hid HF0
  have K0 := Lib.hid h
  clear h HF0
  go_enter Tryz.func7, Tryz.ntmps7
  go_wp2_with fail
  refine (HF.out _).mono ?_
  rintro e w1 ⟨rfl, hb1⟩
  have B1 : Hid (Below w.heap.size w w1) := hb1
  have hz1 : w.heap.size ≤ w1.heap.size := hb1.size
  clear hb1 HF
  simp only [o7]
  go_wp2_with (first | (refine wpList_store_row 66 _ _ rfl rfl rfl w1.heap.size 66 rfl (o7 c n1 n2 m3 r l F) rfl _ (heap_alloc_new w1 _) rfl info_op (o7_one _ _ _ _ _ _ _) ?_; intro w2 hh2 hg2 hz2; have B2 : Hid (Below w.heap.size w w2) := (B1.out.alloc (by omega) _).grown hg2 (by simp; omega) (fun j hj => by injection hj with hj; omega); have hl2 : w1.heap.size < w2.heap.size := (by rw [hz2]; simp); have HL2 := Lib.hid hh2; clear hz2 hg2 hh2))
  have K : Hid (∀ W, Below w2.heap.size w2 W → W.heap[w1.heap.size]? = some (.cells (o7 c n1 n2 m3 r l F).toArray 66 (0, 0))) := fun W hW => (hW.block _ hl2).trans HL2.out
  have KL : Hid (Ints w2 A n ts) := K0.out.below B2.out
  clear HL2
  go_wp2
  go_loop [22] (fun i => ∃ k : Nat, k ≤ n ∧ i = .int .i64 k ∧ Hid (∀ j, j < k → isTy (ts j) = true)) (fun i => n - (intOf i).toNat)
  case atStart => exact ⟨0, Nat.zero_le _, rfl, fun j hj => absurd hj (by omega)⟩
  case round =>
    obtain ⟨k, hk, rfl, HA⟩ := hrel
    by_cases hlt : k < n
    · obtain ⟨b, o, rfl, _, hc'⟩ := KL.out (by omega)
      have hc := hc' k hlt
      clear hc'
      have HC := Lib.hid (c_isTypeB (ts k) w2)
      by_cases e1 : isTy (ts k) = true
      · have HA' : Hid (∀ j, j < k + 1 → isTy (ts j) = true) := fun j hj => by
          by_cases e : j = k
          · rw [e]; exact e1
          · exact HA.out j (by omega)
        rw [e1] at HC
        generalize ts k = t at *
        go_wp2_with fail
        refine HC.out.mono ?_
        rintro e w5 ⟨rfl, rfl⟩
        go_wp2
        go_round
        case rel => exact ⟨k + 1, by omega, by go_num, HA'⟩
        case measure => simp [intOf]; omega
      · have HE : Hid (¬ allTy n ts) := fun h => e1 (h k hlt)
        have e1' : isTy (ts k) = false := by simpa using e1
        rw [e1'] at HC
        generalize ts k = t at *
        go_wp2_with fail
        refine HC.out.mono ?_
        rintro e w5 ⟨rfl, rfl⟩
        go_wp2
        go_ret2
        exact ⟨⟨fun h => absurd h HE.out, fun _ => rfl⟩, B2.out⟩
    · obtain rfl : k = n := by omega
      have HAll : Hid (allTy k ts) := HA.out
      have HSh := Lib.hid (c_sharedT w2 A k cap c n1 n2 m3 r l (.func (.func F) #[] #[]) ts hn KL.out)
      obtain ⟨fo, hfo⟩ : ∃ fo, foldT (n3 n1 n2 m3) ts k = fo := ⟨_, rfl⟩
      rw [hfo] at HSh
      have HFO := Lib.hid hfo
      clear hfo
      have hk5 := K.out _ (Below.refl _ _)
      have o0 : w2.cell? ⟨w1.heap.size, 0, none⟩ = some (.int .i64 c) := by rw [cell_of_row _ _ _ _ _ _ hk5]; rfl
      have o1 : w2.cell? ⟨w1.heap.size, 1, none⟩ = some (.int .i64 n1) := by rw [cell_of_row _ _ _ _ _ _ hk5]; rfl
      have o2 : w2.cell? ⟨w1.heap.size, 2, none⟩ = some (.int .i64 n2) := by rw [cell_of_row _ _ _ _ _ _ hk5]; rfl
      have o3 : w2.cell? ⟨w1.heap.size, 3, none⟩ = some (.int .i64 m3) := by rw [cell_of_row _ _ _ _ _ _ hk5]; rfl
      have o4 : w2.cell? ⟨w1.heap.size, 4, none⟩ = some (.int .i64 r) := by rw [cell_of_row _ _ _ _ _ _ hk5]; rfl
      have o5 : w2.cell? ⟨w1.heap.size, 5, none⟩ = some (.bool l) := by rw [cell_of_row _ _ _ _ _ _ hk5]; rfl
      have o6 : w2.cell? ⟨w1.heap.size, 6, none⟩ = some (.func (.func F) #[] #[]) := by rw [cell_of_row _ _ _ _ _ _ hk5]; rfl
      clear hk5
      go_wp2_with fail
      refine HSh.out.mono ?_
      rintro e w5 ⟨rfl, hb5⟩
      have B5 : Hid (Below w.heap.size w w5) := btr B2.out hb5
      have hk5 := K.out _ hb5
      clear o0 o1 o2 o3 o4 o5 o6 hb5 HSh
      have o0 : w5.cell? ⟨w1.heap.size, 0, none⟩ = some (.int .i64 c) := by rw [cell_of_row _ _ _ _ _ _ hk5]; rfl
      have o1 : w5.cell? ⟨w1.heap.size, 1, none⟩ = some (.int .i64 n1) := by rw [cell_of_row _ _ _ _ _ _ hk5]; rfl
      have o2 : w5.cell? ⟨w1.heap.size, 2, none⟩ = some (.int .i64 n2) := by rw [cell_of_row _ _ _ _ _ _ hk5]; rfl
      have o3 : w5.cell? ⟨w1.heap.size, 3, none⟩ = some (.int .i64 m3) := by rw [cell_of_row _ _ _ _ _ _ hk5]; rfl
      have o4 : w5.cell? ⟨w1.heap.size, 4, none⟩ = some (.int .i64 r) := by rw [cell_of_row _ _ _ _ _ _ hk5]; rfl
      have o5 : w5.cell? ⟨w1.heap.size, 5, none⟩ = some (.bool l) := by rw [cell_of_row _ _ _ _ _ _ hk5]; rfl
      have o6 : w5.cell? ⟨w1.heap.size, 6, none⟩ = some (.func (.func F) #[] #[]) := by rw [cell_of_row _ _ _ _ _ _ hk5]; rfl
      clear hk5
      cases fo with
      | none =>
        simp only [shRes]
        go_wp2
        go_ret2
        exact ⟨⟨fun _ => by rw [HFO.out]; rfl, fun h => absurd HAll.out h⟩, B5.out⟩
      | some s =>
        simp only [shRes]
        by_cases er : r = 0
        · subst er
          go_wp2
          go_ret2
          exact ⟨⟨fun _ => by rw [HFO.out]; rfl, fun h => absurd HAll.out h⟩, B5.out⟩
        · have er' : (r == 0) = false := by rw [beq_eq_false_iff_ne]; exact er
          have HR : Hid (tyRes r (some s) = .tuple #[.int .i64 r, .int .i64 0]) := if_neg er
          go_wp2
          go_ret2
          exact ⟨⟨fun _ => by rw [HFO.out, HR.out]; rfl, fun h => absurd HAll.out h⟩, B5.out⟩
end Go.Proofs.YtfkjfeobhbocjaaGreatDoor
