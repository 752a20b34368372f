/- The document's own words on the type of a result: the call. -/
import Derived.Test.YtfkjfeobhbocjaaGreatDoorRT
namespace Go.Proofs.YtfkjfeobhbocjaaGreatDoor
open Go.RowKit Go.Deep

set_option maxRecDepth 100000 in
set_option maxHeartbeats 2000000 in
theorem rt_none (w : World) (op : Int) (A : Option Addr) (n cap : Nat) (h : opn op = 0 ∨ opn op ≠ n) :
    Calls Tryz.prog 8 #[.int .i64 op, .slice A n cap] w fun e w' => e = .returned (.tuple #[.int .i64 0, .int .i64 2]) ∧ ∃ n, w' = w.drewN n := by
  have HO := Lib.hid (r_operands w op)
  by_cases h0 : opn op = 0
  · rw [h0] at HO
    clear h
    go_enter Tryz.func8, Tryz.ntmps8
    go_wp2_with (first | (go_at_call 36; refine HO.out.mono ?_; rintro e w' ⟨rfl, rfl⟩))
    go_ret2
    exact ⟨rfl, 0, rfl⟩
  · have h1 : (opn op == 0) = false := by rw [beq_eq_false_iff_ne]; exact h0
    have h2 : ((n : Int) != opn op) = true := by rw [bne_iff_ne]; omega
    generalize opn op = o at *
    clear h
    go_enter Tryz.func8, Tryz.ntmps8
    go_wp2_with (first | (go_at_call 36; refine HO.out.mono ?_; rintro e w' ⟨rfl, rfl⟩))
    go_ret2
    exact ⟨rfl, 0, rfl⟩

set_option maxRecDepth 100000 in
set_option maxHeartbeats 2000000 in
theorem rt_Type (w : World) (op : Int) (A : Option Addr) (n cap : Nat) (ts : Nat → Int) (h : Ints w A n ts) (h1 : opn op = n) (h2 : n ≠ 0) :
    Calls Tryz.prog 8 #[.int .i64 op, .slice A n cap] w fun e w' => ((allTy n ts → e = .returned (docT (refT op ts))) ∧ (¬ allTy n ts → e = .returned (.tuple #[.int .i64 0, .int .i64 2]))) ∧ ∃ n, w' = w.drewN n := by
  have HO := Lib.hid (r_operands w op)
  have hn3 : n ≤ 3 := by
    have hx : opn op ≤ 3 := by unfold opn; split <;> (try split) <;> (try split) <;> omega
    omega
  rw [h1] at HO
  obtain ⟨b, o, rfl, hb, hc⟩ := h (by omega)
  have HC := Lib.hid hc
  have HT := Lib.hid (fun m => typed_all (w.drewN m) op b o n cap ts hc h1 h2)
  have hn0 : ((n : Int) == 0) = false := by rw [beq_eq_false_iff_ne]; omega
  have hnn : ((n : Int) != (n : Int)) = false := by simp
  clear h hc h1
  go_enter Tryz.func8, Tryz.ntmps8
  go_wp2_with (first | (go_at_call 36; refine HO.out.mono ?_; rintro e w' ⟨rfl, rfl⟩))
  go_loopw [6] (fun i wr => ∃ k m : Nat, k ≤ n ∧ i = .int .i64 k ∧ wr = w.drewN m ∧ Hid (∀ j, j < k → isTy (ts j) = true)) (fun i _ => n - (intOf i).toNat)
  case atStart => exact ⟨0, 0, Nat.zero_le _, rfl, rfl, fun j hj => absurd hj (by omega)⟩
  case round =>
    obtain ⟨k, m, hk, rfl, rfl, HA⟩ := hrel
    by_cases hlt : k < n
    · have hc : (w.drewN m).cell? ⟨b, o + k, none⟩ = some (.int .i64 (ts k)) := HC.out k hlt
      by_cases e1 : 1 ≤ ts k
      · by_cases e2 : ts k ≤ 4
        · have HA' : Hid (∀ j, j < k + 1 → isTy (ts j) = true) := fun j hj => by
            by_cases e : j = k
            · rw [e]; simp [isTy, e1, e2]
            · exact HA.out j (by omega)
          generalize ts k = t at *
          go_wp2
          go_roundw
          case rel => exact ⟨k + 1, m, by omega, by go_num, rfl, HA'⟩
          case measure => simp [intOf]; omega
        · have HE : Hid (¬ allTy n ts) := fun h => by have := h k hlt; simp [isTy] at this; omega
          have e2' : 4 < ts k := by omega
          generalize ts k = t at *
          go_wp2
          go_ret2
          exact ⟨⟨fun h => absurd h HE.out, fun _ => rfl⟩, by first | exact ⟨_, rfl⟩ | exact dr2 _ _ _⟩
      · have HE : Hid (¬ allTy n ts) := fun h => by have := h k hlt; simp [isTy] at this; omega
        have e1' : ts k < 1 := by omega
        generalize ts k = t at *
        go_wp2
        go_ret2
        exact ⟨⟨fun h => absurd h HE.out, fun _ => rfl⟩, by first | exact ⟨_, rfl⟩ | exact dr2 _ _ _⟩
    · obtain rfl : k = n := by omega
      have HAll : Hid (allTy k ts) := HA.out
      by_cases er : refT op ts = 0
      · have HD : Hid (docT (refT op ts) = .tuple #[.int .i64 0, .int .i64 12]) := by show _ = _; rw [docT, if_pos er]
        rw [er] at HT
        go_wp2_with fail
        refine (HT.out m).mono ?_
        rintro e w' ⟨rfl, m2, rfl⟩
        go_wp2
        go_ret2
        exact ⟨⟨fun _ => by rw [HD.out]; rfl, fun h => absurd HAll.out h⟩, by first | exact ⟨_, rfl⟩ | exact dr2 _ _ _⟩
      · have HD : Hid (docT (refT op ts) = .tuple #[.int .i64 (refT op ts), .int .i64 0]) := by show _ = _; rw [docT, if_neg er]
        have er' : (refT op ts == 0) = false := by rw [beq_eq_false_iff_ne]; exact er
        have HD2 : Hid (∃ o, o = refT op ts) := ⟨_, rfl⟩
        go_wp2_with fail
        refine (HT.out m).mono ?_
        rintro e w' ⟨rfl, m2, rfl⟩
        go_wp2
        go_ret2
        exact ⟨⟨fun _ => by rw [HD.out]; rfl, fun h => absurd HAll.out h⟩, by first | exact ⟨_, rfl⟩ | exact dr2 _ _ _⟩
end Go.Proofs.YtfkjfeobhbocjaaGreatDoor
