/- The document's own words on the type of a result: each operation. -/
import Derived.Test.YtfkjfeobhbocjaaGreatDoorRefT
namespace Go.Proofs.YtfkjfeobhbocjaaGreatDoor
open Go.RowKit Go.Deep

set_option maxRecDepth 100000 in
set_option maxHeartbeats 2000000 in
theorem r_typed4 (w : World) (b o cap : Nat) (t0 : Int) (h0 : w.cell? ⟨b, o, none⟩ = some (.int .i64 t0)) :
    Calls Tryz.prog 37 #[.int .i64 4, .slice (some ⟨b, o, none⟩) 1 cap] w fun e w' => e = .returned (.int .i64 (if t0 = 1 then 1 else 0)) ∧ ∃ n, w' = w.drewN n := by
  by_cases p0 : t0 = 1
  · have q0 : (t0 == 1) = true := by rw [beq_iff_eq]; exact p0
    rw [if_pos p0]
    go_enter Tryz.func37, Tryz.ntmps37
    go_wp2_with (first       | (go_at_call 70; refine (r_numeric _ _).mono ?_; rintro e w' ⟨rfl, rfl⟩)       | (go_at_call 71; refine (r_shared _ _ _).mono ?_; rintro e w' ⟨rfl, rfl⟩))
    iterate 5 (try ((first | (go_quiet (fail)) | (go_region_held3 (fun w' => w'.cell? ⟨b, o, none⟩ = some (.int .i64 t0)) (first | exact h0) (first       | (go_at_call 70; refine (r_numeric _ _).mono ?_; rintro e w' ⟨rfl, rfl⟩)       | (go_at_call 71; refine (r_shared _ _ _).mono ?_; rintro e w' ⟨rfl, rfl⟩))) | fail); try (go_wp2_with (first       | (go_at_call 70; refine (r_numeric _ _).mono ?_; rintro e w' ⟨rfl, rfl⟩)       | (go_at_call 71; refine (r_shared _ _ _).mono ?_; rintro e w' ⟨rfl, rfl⟩)))))
    all_goals (go_ret; exact ⟨rfl, by first | exact ⟨0, rfl⟩ | exact ⟨_, rfl⟩ | exact dr2 _ _ _ | exact dr3 _ _ _ _⟩)
  · have q0 : (t0 == 1) = false := by rw [beq_eq_false_iff_ne]; exact p0
    rw [if_neg p0]
    go_enter Tryz.func37, Tryz.ntmps37
    go_wp2_with (first       | (go_at_call 70; refine (r_numeric _ _).mono ?_; rintro e w' ⟨rfl, rfl⟩)       | (go_at_call 71; refine (r_shared _ _ _).mono ?_; rintro e w' ⟨rfl, rfl⟩))
    iterate 5 (try ((first | (go_quiet (fail)) | (go_region_held3 (fun w' => w'.cell? ⟨b, o, none⟩ = some (.int .i64 t0)) (first | exact h0) (first       | (go_at_call 70; refine (r_numeric _ _).mono ?_; rintro e w' ⟨rfl, rfl⟩)       | (go_at_call 71; refine (r_shared _ _ _).mono ?_; rintro e w' ⟨rfl, rfl⟩))) | fail); try (go_wp2_with (first       | (go_at_call 70; refine (r_numeric _ _).mono ?_; rintro e w' ⟨rfl, rfl⟩)       | (go_at_call 71; refine (r_shared _ _ _).mono ?_; rintro e w' ⟨rfl, rfl⟩)))))
    all_goals (go_ret; exact ⟨rfl, by first | exact ⟨0, rfl⟩ | exact ⟨_, rfl⟩ | exact dr2 _ _ _ | exact dr3 _ _ _ _⟩)

set_option maxRecDepth 100000 in
set_option maxHeartbeats 2000000 in
theorem r_typed5 (w : World) (b o cap : Nat) (t0 : Int) (h0 : w.cell? ⟨b, o, none⟩ = some (.int .i64 t0)) :
    Calls Tryz.prog 37 #[.int .i64 5, .slice (some ⟨b, o, none⟩) 1 cap] w fun e w' => e = .returned (.int .i64 (if isNum t0 = true then t0 else 0)) ∧ ∃ n, w' = w.drewN n := by
  cases q0 : isNum t0
  case true =>
    rw [if_pos rfl]
    go_enter Tryz.func37, Tryz.ntmps37
    go_wp2_with (first       | (go_at_call 70; refine (r_numeric _ _).mono ?_; rintro e w' ⟨rfl, rfl⟩)       | (go_at_call 71; refine (r_shared _ _ _).mono ?_; rintro e w' ⟨rfl, rfl⟩))
    iterate 5 (try ((first | (go_quiet (fail)) | (go_region_held3 (fun w' => w'.cell? ⟨b, o, none⟩ = some (.int .i64 t0)) (first | exact h0) (first       | (go_at_call 70; refine (r_numeric _ _).mono ?_; rintro e w' ⟨rfl, rfl⟩)       | (go_at_call 71; refine (r_shared _ _ _).mono ?_; rintro e w' ⟨rfl, rfl⟩))) | fail); try (go_wp2_with (first       | (go_at_call 70; refine (r_numeric _ _).mono ?_; rintro e w' ⟨rfl, rfl⟩)       | (go_at_call 71; refine (r_shared _ _ _).mono ?_; rintro e w' ⟨rfl, rfl⟩)))))
    all_goals (go_ret; exact ⟨rfl, by first | exact ⟨0, rfl⟩ | exact ⟨_, rfl⟩ | exact dr2 _ _ _ | exact dr3 _ _ _ _⟩)
  case false =>
    rw [if_neg (by simp)]
    go_enter Tryz.func37, Tryz.ntmps37
    go_wp2_with (first       | (go_at_call 70; refine (r_numeric _ _).mono ?_; rintro e w' ⟨rfl, rfl⟩)       | (go_at_call 71; refine (r_shared _ _ _).mono ?_; rintro e w' ⟨rfl, rfl⟩))
    iterate 5 (try ((first | (go_quiet (fail)) | (go_region_held3 (fun w' => w'.cell? ⟨b, o, none⟩ = some (.int .i64 t0)) (first | exact h0) (first       | (go_at_call 70; refine (r_numeric _ _).mono ?_; rintro e w' ⟨rfl, rfl⟩)       | (go_at_call 71; refine (r_shared _ _ _).mono ?_; rintro e w' ⟨rfl, rfl⟩))) | fail); try (go_wp2_with (first       | (go_at_call 70; refine (r_numeric _ _).mono ?_; rintro e w' ⟨rfl, rfl⟩)       | (go_at_call 71; refine (r_shared _ _ _).mono ?_; rintro e w' ⟨rfl, rfl⟩)))))
    all_goals (go_ret; exact ⟨rfl, by first | exact ⟨0, rfl⟩ | exact ⟨_, rfl⟩ | exact dr2 _ _ _ | exact dr3 _ _ _ _⟩)

set_option maxRecDepth 100000 in
set_option maxHeartbeats 2000000 in
theorem r_typed6 (w : World) (b o cap : Nat) (t0 : Int) (h0 : w.cell? ⟨b, o, none⟩ = some (.int .i64 t0)) :
    Calls Tryz.prog 37 #[.int .i64 6, .slice (some ⟨b, o, none⟩) 1 cap] w fun e w' => e = .returned (.int .i64 (if isNum t0 = true then 2 else 0)) ∧ ∃ n, w' = w.drewN n := by
  cases q0 : isNum t0
  case true =>
    rw [if_pos rfl]
    go_enter Tryz.func37, Tryz.ntmps37
    go_wp2_with (first       | (go_at_call 70; refine (r_numeric _ _).mono ?_; rintro e w' ⟨rfl, rfl⟩)       | (go_at_call 71; refine (r_shared _ _ _).mono ?_; rintro e w' ⟨rfl, rfl⟩))
    iterate 5 (try ((first | (go_quiet (fail)) | (go_region_held3 (fun w' => w'.cell? ⟨b, o, none⟩ = some (.int .i64 t0)) (first | exact h0) (first       | (go_at_call 70; refine (r_numeric _ _).mono ?_; rintro e w' ⟨rfl, rfl⟩)       | (go_at_call 71; refine (r_shared _ _ _).mono ?_; rintro e w' ⟨rfl, rfl⟩))) | fail); try (go_wp2_with (first       | (go_at_call 70; refine (r_numeric _ _).mono ?_; rintro e w' ⟨rfl, rfl⟩)       | (go_at_call 71; refine (r_shared _ _ _).mono ?_; rintro e w' ⟨rfl, rfl⟩)))))
    all_goals (go_ret; exact ⟨rfl, by first | exact ⟨0, rfl⟩ | exact ⟨_, rfl⟩ | exact dr2 _ _ _ | exact dr3 _ _ _ _⟩)
  case false =>
    rw [if_neg (by simp)]
    go_enter Tryz.func37, Tryz.ntmps37
    go_wp2_with (first       | (go_at_call 70; refine (r_numeric _ _).mono ?_; rintro e w' ⟨rfl, rfl⟩)       | (go_at_call 71; refine (r_shared _ _ _).mono ?_; rintro e w' ⟨rfl, rfl⟩))
    iterate 5 (try ((first | (go_quiet (fail)) | (go_region_held3 (fun w' => w'.cell? ⟨b, o, none⟩ = some (.int .i64 t0)) (first | exact h0) (first       | (go_at_call 70; refine (r_numeric _ _).mono ?_; rintro e w' ⟨rfl, rfl⟩)       | (go_at_call 71; refine (r_shared _ _ _).mono ?_; rintro e w' ⟨rfl, rfl⟩))) | fail); try (go_wp2_with (first       | (go_at_call 70; refine (r_numeric _ _).mono ?_; rintro e w' ⟨rfl, rfl⟩)       | (go_at_call 71; refine (r_shared _ _ _).mono ?_; rintro e w' ⟨rfl, rfl⟩)))))
    all_goals (go_ret; exact ⟨rfl, by first | exact ⟨0, rfl⟩ | exact ⟨_, rfl⟩ | exact dr2 _ _ _ | exact dr3 _ _ _ _⟩)

set_option maxRecDepth 100000 in
set_option maxHeartbeats 2000000 in
theorem r_typed7 (w : World) (b o cap : Nat) (t0 : Int) (h0 : w.cell? ⟨b, o, none⟩ = some (.int .i64 t0)) :
    Calls Tryz.prog 37 #[.int .i64 7, .slice (some ⟨b, o, none⟩) 1 cap] w fun e w' => e = .returned (.int .i64 (1)) ∧ ∃ n, w' = w.drewN n := by
  go_enter Tryz.func37, Tryz.ntmps37
  go_wp2_with (first       | (go_at_call 70; refine (r_numeric _ _).mono ?_; rintro e w' ⟨rfl, rfl⟩)       | (go_at_call 71; refine (r_shared _ _ _).mono ?_; rintro e w' ⟨rfl, rfl⟩))
  iterate 5 (try ((first | (go_quiet (fail)) | (go_region_held3 (fun w' => w'.cell? ⟨b, o, none⟩ = some (.int .i64 t0)) (first | exact h0) (first       | (go_at_call 70; refine (r_numeric _ _).mono ?_; rintro e w' ⟨rfl, rfl⟩)       | (go_at_call 71; refine (r_shared _ _ _).mono ?_; rintro e w' ⟨rfl, rfl⟩))) | fail); try (go_wp2_with (first       | (go_at_call 70; refine (r_numeric _ _).mono ?_; rintro e w' ⟨rfl, rfl⟩)       | (go_at_call 71; refine (r_shared _ _ _).mono ?_; rintro e w' ⟨rfl, rfl⟩)))))
  all_goals (go_ret; exact ⟨rfl, by first | exact ⟨0, rfl⟩ | exact ⟨_, rfl⟩ | exact dr2 _ _ _ | exact dr3 _ _ _ _⟩)

set_option maxRecDepth 100000 in
set_option maxHeartbeats 2000000 in
theorem r_typed8 (w : World) (b o cap : Nat) (t0 : Int) (h0 : w.cell? ⟨b, o, none⟩ = some (.int .i64 t0)) :
    Calls Tryz.prog 37 #[.int .i64 8, .slice (some ⟨b, o, none⟩) 1 cap] w fun e w' => e = .returned (.int .i64 (2)) ∧ ∃ n, w' = w.drewN n := by
  go_enter Tryz.func37, Tryz.ntmps37
  go_wp2_with (first       | (go_at_call 70; refine (r_numeric _ _).mono ?_; rintro e w' ⟨rfl, rfl⟩)       | (go_at_call 71; refine (r_shared _ _ _).mono ?_; rintro e w' ⟨rfl, rfl⟩))
  iterate 5 (try ((first | (go_quiet (fail)) | (go_region_held3 (fun w' => w'.cell? ⟨b, o, none⟩ = some (.int .i64 t0)) (first | exact h0) (first       | (go_at_call 70; refine (r_numeric _ _).mono ?_; rintro e w' ⟨rfl, rfl⟩)       | (go_at_call 71; refine (r_shared _ _ _).mono ?_; rintro e w' ⟨rfl, rfl⟩))) | fail); try (go_wp2_with (first       | (go_at_call 70; refine (r_numeric _ _).mono ?_; rintro e w' ⟨rfl, rfl⟩)       | (go_at_call 71; refine (r_shared _ _ _).mono ?_; rintro e w' ⟨rfl, rfl⟩)))))
  all_goals (go_ret; exact ⟨rfl, by first | exact ⟨0, rfl⟩ | exact ⟨_, rfl⟩ | exact dr2 _ _ _ | exact dr3 _ _ _ _⟩)

set_option maxRecDepth 100000 in
set_option maxHeartbeats 2000000 in
theorem r_typed9 (w : World) (b o cap : Nat) (t0 t1 : Int) (h0 : w.cell? ⟨b, o, none⟩ = some (.int .i64 t0)) (h1 : w.cell? ⟨b, o + 1, none⟩ = some (.int .i64 t1)) :
    Calls Tryz.prog 37 #[.int .i64 9, .slice (some ⟨b, o, none⟩) 2 cap] w fun e w' => e = .returned (.int .i64 (if isNum t0 = true then (if isNum t1 = true then shT t0 t1 else 0) else 0)) ∧ ∃ n, w' = w.drewN n := by
  cases q0 : isNum t0
  case true =>
    rw [if_pos rfl]
    cases q1 : isNum t1
    case true =>
      rw [if_pos rfl]
      go_enter Tryz.func37, Tryz.ntmps37
      go_wp2_with (first       | (go_at_call 70; refine (r_numeric _ _).mono ?_; rintro e w' ⟨rfl, rfl⟩)       | (go_at_call 71; refine (r_shared _ _ _).mono ?_; rintro e w' ⟨rfl, rfl⟩))
      iterate 5 (try ((first | (go_quiet (fail)) | (go_region_held3 (fun w' => w'.cell? ⟨b, o, none⟩ = some (.int .i64 t0) ∧ w'.cell? ⟨b, o + 1, none⟩ = some (.int .i64 t1)) (first | exact ⟨h0, h1⟩) (first       | (go_at_call 70; refine (r_numeric _ _).mono ?_; rintro e w' ⟨rfl, rfl⟩)       | (go_at_call 71; refine (r_shared _ _ _).mono ?_; rintro e w' ⟨rfl, rfl⟩))) | fail); try (go_wp2_with (first       | (go_at_call 70; refine (r_numeric _ _).mono ?_; rintro e w' ⟨rfl, rfl⟩)       | (go_at_call 71; refine (r_shared _ _ _).mono ?_; rintro e w' ⟨rfl, rfl⟩)))))
      all_goals (go_ret; exact ⟨rfl, by first | exact ⟨0, rfl⟩ | exact ⟨_, rfl⟩ | exact dr2 _ _ _ | exact dr3 _ _ _ _⟩)
    case false =>
      rw [if_neg (by simp)]
      go_enter Tryz.func37, Tryz.ntmps37
      go_wp2_with (first       | (go_at_call 70; refine (r_numeric _ _).mono ?_; rintro e w' ⟨rfl, rfl⟩)       | (go_at_call 71; refine (r_shared _ _ _).mono ?_; rintro e w' ⟨rfl, rfl⟩))
      iterate 5 (try ((first | (go_quiet (fail)) | (go_region_held3 (fun w' => w'.cell? ⟨b, o, none⟩ = some (.int .i64 t0) ∧ w'.cell? ⟨b, o + 1, none⟩ = some (.int .i64 t1)) (first | exact ⟨h0, h1⟩) (first       | (go_at_call 70; refine (r_numeric _ _).mono ?_; rintro e w' ⟨rfl, rfl⟩)       | (go_at_call 71; refine (r_shared _ _ _).mono ?_; rintro e w' ⟨rfl, rfl⟩))) | fail); try (go_wp2_with (first       | (go_at_call 70; refine (r_numeric _ _).mono ?_; rintro e w' ⟨rfl, rfl⟩)       | (go_at_call 71; refine (r_shared _ _ _).mono ?_; rintro e w' ⟨rfl, rfl⟩)))))
      all_goals (go_ret; exact ⟨rfl, by first | exact ⟨0, rfl⟩ | exact ⟨_, rfl⟩ | exact dr2 _ _ _ | exact dr3 _ _ _ _⟩)
  case false =>
    rw [if_neg (by simp)]
    go_enter Tryz.func37, Tryz.ntmps37
    go_wp2_with (first       | (go_at_call 70; refine (r_numeric _ _).mono ?_; rintro e w' ⟨rfl, rfl⟩)       | (go_at_call 71; refine (r_shared _ _ _).mono ?_; rintro e w' ⟨rfl, rfl⟩))
    iterate 5 (try ((first | (go_quiet (fail)) | (go_region_held3 (fun w' => w'.cell? ⟨b, o, none⟩ = some (.int .i64 t0) ∧ w'.cell? ⟨b, o + 1, none⟩ = some (.int .i64 t1)) (first | exact ⟨h0, h1⟩) (first       | (go_at_call 70; refine (r_numeric _ _).mono ?_; rintro e w' ⟨rfl, rfl⟩)       | (go_at_call 71; refine (r_shared _ _ _).mono ?_; rintro e w' ⟨rfl, rfl⟩))) | fail); try (go_wp2_with (first       | (go_at_call 70; refine (r_numeric _ _).mono ?_; rintro e w' ⟨rfl, rfl⟩)       | (go_at_call 71; refine (r_shared _ _ _).mono ?_; rintro e w' ⟨rfl, rfl⟩)))))
    all_goals (go_ret; exact ⟨rfl, by first | exact ⟨0, rfl⟩ | exact ⟨_, rfl⟩ | exact dr2 _ _ _ | exact dr3 _ _ _ _⟩)

set_option maxRecDepth 100000 in
set_option maxHeartbeats 2000000 in
theorem r_typed10 (w : World) (b o cap : Nat) (t0 t1 : Int) (h0 : w.cell? ⟨b, o, none⟩ = some (.int .i64 t0)) (h1 : w.cell? ⟨b, o + 1, none⟩ = some (.int .i64 t1)) :
    Calls Tryz.prog 37 #[.int .i64 10, .slice (some ⟨b, o, none⟩) 2 cap] w fun e w' => e = .returned (.int .i64 (if isNum t0 = true then (if isNum t1 = true then shT t0 t1 else 0) else 0)) ∧ ∃ n, w' = w.drewN n := by
  cases q0 : isNum t0
  case true =>
    rw [if_pos rfl]
    cases q1 : isNum t1
    case true =>
      rw [if_pos rfl]
      go_enter Tryz.func37, Tryz.ntmps37
      go_wp2_with (first       | (go_at_call 70; refine (r_numeric _ _).mono ?_; rintro e w' ⟨rfl, rfl⟩)       | (go_at_call 71; refine (r_shared _ _ _).mono ?_; rintro e w' ⟨rfl, rfl⟩))
      iterate 5 (try ((first | (go_quiet (fail)) | (go_region_held3 (fun w' => w'.cell? ⟨b, o, none⟩ = some (.int .i64 t0) ∧ w'.cell? ⟨b, o + 1, none⟩ = some (.int .i64 t1)) (first | exact ⟨h0, h1⟩) (first       | (go_at_call 70; refine (r_numeric _ _).mono ?_; rintro e w' ⟨rfl, rfl⟩)       | (go_at_call 71; refine (r_shared _ _ _).mono ?_; rintro e w' ⟨rfl, rfl⟩))) | fail); try (go_wp2_with (first       | (go_at_call 70; refine (r_numeric _ _).mono ?_; rintro e w' ⟨rfl, rfl⟩)       | (go_at_call 71; refine (r_shared _ _ _).mono ?_; rintro e w' ⟨rfl, rfl⟩)))))
      all_goals (go_ret; exact ⟨rfl, by first | exact ⟨0, rfl⟩ | exact ⟨_, rfl⟩ | exact dr2 _ _ _ | exact dr3 _ _ _ _⟩)
    case false =>
      rw [if_neg (by simp)]
      go_enter Tryz.func37, Tryz.ntmps37
      go_wp2_with (first       | (go_at_call 70; refine (r_numeric _ _).mono ?_; rintro e w' ⟨rfl, rfl⟩)       | (go_at_call 71; refine (r_shared _ _ _).mono ?_; rintro e w' ⟨rfl, rfl⟩))
      iterate 5 (try ((first | (go_quiet (fail)) | (go_region_held3 (fun w' => w'.cell? ⟨b, o, none⟩ = some (.int .i64 t0) ∧ w'.cell? ⟨b, o + 1, none⟩ = some (.int .i64 t1)) (first | exact ⟨h0, h1⟩) (first       | (go_at_call 70; refine (r_numeric _ _).mono ?_; rintro e w' ⟨rfl, rfl⟩)       | (go_at_call 71; refine (r_shared _ _ _).mono ?_; rintro e w' ⟨rfl, rfl⟩))) | fail); try (go_wp2_with (first       | (go_at_call 70; refine (r_numeric _ _).mono ?_; rintro e w' ⟨rfl, rfl⟩)       | (go_at_call 71; refine (r_shared _ _ _).mono ?_; rintro e w' ⟨rfl, rfl⟩)))))
      all_goals (go_ret; exact ⟨rfl, by first | exact ⟨0, rfl⟩ | exact ⟨_, rfl⟩ | exact dr2 _ _ _ | exact dr3 _ _ _ _⟩)
  case false =>
    rw [if_neg (by simp)]
    go_enter Tryz.func37, Tryz.ntmps37
    go_wp2_with (first       | (go_at_call 70; refine (r_numeric _ _).mono ?_; rintro e w' ⟨rfl, rfl⟩)       | (go_at_call 71; refine (r_shared _ _ _).mono ?_; rintro e w' ⟨rfl, rfl⟩))
    iterate 5 (try ((first | (go_quiet (fail)) | (go_region_held3 (fun w' => w'.cell? ⟨b, o, none⟩ = some (.int .i64 t0) ∧ w'.cell? ⟨b, o + 1, none⟩ = some (.int .i64 t1)) (first | exact ⟨h0, h1⟩) (first       | (go_at_call 70; refine (r_numeric _ _).mono ?_; rintro e w' ⟨rfl, rfl⟩)       | (go_at_call 71; refine (r_shared _ _ _).mono ?_; rintro e w' ⟨rfl, rfl⟩))) | fail); try (go_wp2_with (first       | (go_at_call 70; refine (r_numeric _ _).mono ?_; rintro e w' ⟨rfl, rfl⟩)       | (go_at_call 71; refine (r_shared _ _ _).mono ?_; rintro e w' ⟨rfl, rfl⟩)))))
    all_goals (go_ret; exact ⟨rfl, by first | exact ⟨0, rfl⟩ | exact ⟨_, rfl⟩ | exact dr2 _ _ _ | exact dr3 _ _ _ _⟩)

set_option maxRecDepth 100000 in
set_option maxHeartbeats 2000000 in
theorem r_typed11 (w : World) (b o cap : Nat) (t0 t1 : Int) (h0 : w.cell? ⟨b, o, none⟩ = some (.int .i64 t0)) (h1 : w.cell? ⟨b, o + 1, none⟩ = some (.int .i64 t1)) :
    Calls Tryz.prog 37 #[.int .i64 11, .slice (some ⟨b, o, none⟩) 2 cap] w fun e w' => e = .returned (.int .i64 (if isNum t0 = true then (if isNum t1 = true then shT t0 t1 else 0) else 0)) ∧ ∃ n, w' = w.drewN n := by
  cases q0 : isNum t0
  case true =>
    rw [if_pos rfl]
    cases q1 : isNum t1
    case true =>
      rw [if_pos rfl]
      go_enter Tryz.func37, Tryz.ntmps37
      go_wp2_with (first       | (go_at_call 70; refine (r_numeric _ _).mono ?_; rintro e w' ⟨rfl, rfl⟩)       | (go_at_call 71; refine (r_shared _ _ _).mono ?_; rintro e w' ⟨rfl, rfl⟩))
      iterate 5 (try ((first | (go_quiet (fail)) | (go_region_held3 (fun w' => w'.cell? ⟨b, o, none⟩ = some (.int .i64 t0) ∧ w'.cell? ⟨b, o + 1, none⟩ = some (.int .i64 t1)) (first | exact ⟨h0, h1⟩) (first       | (go_at_call 70; refine (r_numeric _ _).mono ?_; rintro e w' ⟨rfl, rfl⟩)       | (go_at_call 71; refine (r_shared _ _ _).mono ?_; rintro e w' ⟨rfl, rfl⟩))) | fail); try (go_wp2_with (first       | (go_at_call 70; refine (r_numeric _ _).mono ?_; rintro e w' ⟨rfl, rfl⟩)       | (go_at_call 71; refine (r_shared _ _ _).mono ?_; rintro e w' ⟨rfl, rfl⟩)))))
      all_goals (go_ret; exact ⟨rfl, by first | exact ⟨0, rfl⟩ | exact ⟨_, rfl⟩ | exact dr2 _ _ _ | exact dr3 _ _ _ _⟩)
    case false =>
      rw [if_neg (by simp)]
      go_enter Tryz.func37, Tryz.ntmps37
      go_wp2_with (first       | (go_at_call 70; refine (r_numeric _ _).mono ?_; rintro e w' ⟨rfl, rfl⟩)       | (go_at_call 71; refine (r_shared _ _ _).mono ?_; rintro e w' ⟨rfl, rfl⟩))
      iterate 5 (try ((first | (go_quiet (fail)) | (go_region_held3 (fun w' => w'.cell? ⟨b, o, none⟩ = some (.int .i64 t0) ∧ w'.cell? ⟨b, o + 1, none⟩ = some (.int .i64 t1)) (first | exact ⟨h0, h1⟩) (first       | (go_at_call 70; refine (r_numeric _ _).mono ?_; rintro e w' ⟨rfl, rfl⟩)       | (go_at_call 71; refine (r_shared _ _ _).mono ?_; rintro e w' ⟨rfl, rfl⟩))) | fail); try (go_wp2_with (first       | (go_at_call 70; refine (r_numeric _ _).mono ?_; rintro e w' ⟨rfl, rfl⟩)       | (go_at_call 71; refine (r_shared _ _ _).mono ?_; rintro e w' ⟨rfl, rfl⟩)))))
      all_goals (go_ret; exact ⟨rfl, by first | exact ⟨0, rfl⟩ | exact ⟨_, rfl⟩ | exact dr2 _ _ _ | exact dr3 _ _ _ _⟩)
  case false =>
    rw [if_neg (by simp)]
    go_enter Tryz.func37, Tryz.ntmps37
    go_wp2_with (first       | (go_at_call 70; refine (r_numeric _ _).mono ?_; rintro e w' ⟨rfl, rfl⟩)       | (go_at_call 71; refine (r_shared _ _ _).mono ?_; rintro e w' ⟨rfl, rfl⟩))
    iterate 5 (try ((first | (go_quiet (fail)) | (go_region_held3 (fun w' => w'.cell? ⟨b, o, none⟩ = some (.int .i64 t0) ∧ w'.cell? ⟨b, o + 1, none⟩ = some (.int .i64 t1)) (first | exact ⟨h0, h1⟩) (first       | (go_at_call 70; refine (r_numeric _ _).mono ?_; rintro e w' ⟨rfl, rfl⟩)       | (go_at_call 71; refine (r_shared _ _ _).mono ?_; rintro e w' ⟨rfl, rfl⟩))) | fail); try (go_wp2_with (first       | (go_at_call 70; refine (r_numeric _ _).mono ?_; rintro e w' ⟨rfl, rfl⟩)       | (go_at_call 71; refine (r_shared _ _ _).mono ?_; rintro e w' ⟨rfl, rfl⟩)))))
    all_goals (go_ret; exact ⟨rfl, by first | exact ⟨0, rfl⟩ | exact ⟨_, rfl⟩ | exact dr2 _ _ _ | exact dr3 _ _ _ _⟩)

set_option maxRecDepth 100000 in
set_option maxHeartbeats 2000000 in
theorem r_typed12 (w : World) (b o cap : Nat) (t0 t1 : Int) (h0 : w.cell? ⟨b, o, none⟩ = some (.int .i64 t0)) (h1 : w.cell? ⟨b, o + 1, none⟩ = some (.int .i64 t1)) :
    Calls Tryz.prog 37 #[.int .i64 12, .slice (some ⟨b, o, none⟩) 2 cap] w fun e w' => e = .returned (.int .i64 (if isNum t0 = true then (if isNum t1 = true then 3 else 0) else 0)) ∧ ∃ n, w' = w.drewN n := by
  cases q0 : isNum t0
  case true =>
    rw [if_pos rfl]
    cases q1 : isNum t1
    case true =>
      rw [if_pos rfl]
      go_enter Tryz.func37, Tryz.ntmps37
      go_wp2_with (first       | (go_at_call 70; refine (r_numeric _ _).mono ?_; rintro e w' ⟨rfl, rfl⟩)       | (go_at_call 71; refine (r_shared _ _ _).mono ?_; rintro e w' ⟨rfl, rfl⟩))
      iterate 5 (try ((first | (go_quiet (fail)) | (go_region_held3 (fun w' => w'.cell? ⟨b, o, none⟩ = some (.int .i64 t0) ∧ w'.cell? ⟨b, o + 1, none⟩ = some (.int .i64 t1)) (first | exact ⟨h0, h1⟩) (first       | (go_at_call 70; refine (r_numeric _ _).mono ?_; rintro e w' ⟨rfl, rfl⟩)       | (go_at_call 71; refine (r_shared _ _ _).mono ?_; rintro e w' ⟨rfl, rfl⟩))) | fail); try (go_wp2_with (first       | (go_at_call 70; refine (r_numeric _ _).mono ?_; rintro e w' ⟨rfl, rfl⟩)       | (go_at_call 71; refine (r_shared _ _ _).mono ?_; rintro e w' ⟨rfl, rfl⟩)))))
      all_goals (go_ret; exact ⟨rfl, by first | exact ⟨0, rfl⟩ | exact ⟨_, rfl⟩ | exact dr2 _ _ _ | exact dr3 _ _ _ _⟩)
    case false =>
      rw [if_neg (by simp)]
      go_enter Tryz.func37, Tryz.ntmps37
      go_wp2_with (first       | (go_at_call 70; refine (r_numeric _ _).mono ?_; rintro e w' ⟨rfl, rfl⟩)       | (go_at_call 71; refine (r_shared _ _ _).mono ?_; rintro e w' ⟨rfl, rfl⟩))
      iterate 5 (try ((first | (go_quiet (fail)) | (go_region_held3 (fun w' => w'.cell? ⟨b, o, none⟩ = some (.int .i64 t0) ∧ w'.cell? ⟨b, o + 1, none⟩ = some (.int .i64 t1)) (first | exact ⟨h0, h1⟩) (first       | (go_at_call 70; refine (r_numeric _ _).mono ?_; rintro e w' ⟨rfl, rfl⟩)       | (go_at_call 71; refine (r_shared _ _ _).mono ?_; rintro e w' ⟨rfl, rfl⟩))) | fail); try (go_wp2_with (first       | (go_at_call 70; refine (r_numeric _ _).mono ?_; rintro e w' ⟨rfl, rfl⟩)       | (go_at_call 71; refine (r_shared _ _ _).mono ?_; rintro e w' ⟨rfl, rfl⟩)))))
      all_goals (go_ret; exact ⟨rfl, by first | exact ⟨0, rfl⟩ | exact ⟨_, rfl⟩ | exact dr2 _ _ _ | exact dr3 _ _ _ _⟩)
  case false =>
    rw [if_neg (by simp)]
    go_enter Tryz.func37, Tryz.ntmps37
    go_wp2_with (first       | (go_at_call 70; refine (r_numeric _ _).mono ?_; rintro e w' ⟨rfl, rfl⟩)       | (go_at_call 71; refine (r_shared _ _ _).mono ?_; rintro e w' ⟨rfl, rfl⟩))
    iterate 5 (try ((first | (go_quiet (fail)) | (go_region_held3 (fun w' => w'.cell? ⟨b, o, none⟩ = some (.int .i64 t0) ∧ w'.cell? ⟨b, o + 1, none⟩ = some (.int .i64 t1)) (first | exact ⟨h0, h1⟩) (first       | (go_at_call 70; refine (r_numeric _ _).mono ?_; rintro e w' ⟨rfl, rfl⟩)       | (go_at_call 71; refine (r_shared _ _ _).mono ?_; rintro e w' ⟨rfl, rfl⟩))) | fail); try (go_wp2_with (first       | (go_at_call 70; refine (r_numeric _ _).mono ?_; rintro e w' ⟨rfl, rfl⟩)       | (go_at_call 71; refine (r_shared _ _ _).mono ?_; rintro e w' ⟨rfl, rfl⟩)))))
    all_goals (go_ret; exact ⟨rfl, by first | exact ⟨0, rfl⟩ | exact ⟨_, rfl⟩ | exact dr2 _ _ _ | exact dr3 _ _ _ _⟩)

set_option maxRecDepth 100000 in
set_option maxHeartbeats 2000000 in
theorem r_typed13 (w : World) (b o cap : Nat) (t0 t1 : Int) (h0 : w.cell? ⟨b, o, none⟩ = some (.int .i64 t0)) (h1 : w.cell? ⟨b, o + 1, none⟩ = some (.int .i64 t1)) :
    Calls Tryz.prog 37 #[.int .i64 13, .slice (some ⟨b, o, none⟩) 2 cap] w fun e w' => e = .returned (.int .i64 (if shT t0 t1 = 0 then 0 else 1)) ∧ ∃ n, w' = w.drewN n := by
  by_cases p0 : shT t0 t1 = 0
  · have q0 : (shT t0 t1 != 0) = false := by rw [bne_eq_false_iff_eq]; exact p0
    rw [if_pos p0]
    go_enter Tryz.func37, Tryz.ntmps37
    go_wp2_with (first       | (go_at_call 70; refine (r_numeric _ _).mono ?_; rintro e w' ⟨rfl, rfl⟩)       | (go_at_call 71; refine (r_shared _ _ _).mono ?_; rintro e w' ⟨rfl, rfl⟩))
    iterate 5 (try ((first | (go_quiet (fail)) | (go_region_held3 (fun w' => w'.cell? ⟨b, o, none⟩ = some (.int .i64 t0) ∧ w'.cell? ⟨b, o + 1, none⟩ = some (.int .i64 t1)) (first | exact ⟨h0, h1⟩) (first       | (go_at_call 70; refine (r_numeric _ _).mono ?_; rintro e w' ⟨rfl, rfl⟩)       | (go_at_call 71; refine (r_shared _ _ _).mono ?_; rintro e w' ⟨rfl, rfl⟩))) | fail); try (go_wp2_with (first       | (go_at_call 70; refine (r_numeric _ _).mono ?_; rintro e w' ⟨rfl, rfl⟩)       | (go_at_call 71; refine (r_shared _ _ _).mono ?_; rintro e w' ⟨rfl, rfl⟩)))))
    all_goals (go_ret; exact ⟨rfl, by first | exact ⟨0, rfl⟩ | exact ⟨_, rfl⟩ | exact dr2 _ _ _ | exact dr3 _ _ _ _⟩)
  · have q0 : (shT t0 t1 != 0) = true := by rw [bne_iff_ne]; exact p0
    rw [if_neg p0]
    go_enter Tryz.func37, Tryz.ntmps37
    go_wp2_with (first       | (go_at_call 70; refine (r_numeric _ _).mono ?_; rintro e w' ⟨rfl, rfl⟩)       | (go_at_call 71; refine (r_shared _ _ _).mono ?_; rintro e w' ⟨rfl, rfl⟩))
    iterate 5 (try ((first | (go_quiet (fail)) | (go_region_held3 (fun w' => w'.cell? ⟨b, o, none⟩ = some (.int .i64 t0) ∧ w'.cell? ⟨b, o + 1, none⟩ = some (.int .i64 t1)) (first | exact ⟨h0, h1⟩) (first       | (go_at_call 70; refine (r_numeric _ _).mono ?_; rintro e w' ⟨rfl, rfl⟩)       | (go_at_call 71; refine (r_shared _ _ _).mono ?_; rintro e w' ⟨rfl, rfl⟩))) | fail); try (go_wp2_with (first       | (go_at_call 70; refine (r_numeric _ _).mono ?_; rintro e w' ⟨rfl, rfl⟩)       | (go_at_call 71; refine (r_shared _ _ _).mono ?_; rintro e w' ⟨rfl, rfl⟩)))))
    all_goals (go_ret; exact ⟨rfl, by first | exact ⟨0, rfl⟩ | exact ⟨_, rfl⟩ | exact dr2 _ _ _ | exact dr3 _ _ _ _⟩)

set_option maxRecDepth 100000 in
set_option maxHeartbeats 2000000 in
theorem r_typed14 (w : World) (b o cap : Nat) (t0 t1 : Int) (h0 : w.cell? ⟨b, o, none⟩ = some (.int .i64 t0)) (h1 : w.cell? ⟨b, o + 1, none⟩ = some (.int .i64 t1)) :
    Calls Tryz.prog 37 #[.int .i64 14, .slice (some ⟨b, o, none⟩) 2 cap] w fun e w' => e = .returned (.int .i64 (if shT t0 t1 = 0 then 0 else 1)) ∧ ∃ n, w' = w.drewN n := by
  by_cases p0 : shT t0 t1 = 0
  · have q0 : (shT t0 t1 != 0) = false := by rw [bne_eq_false_iff_eq]; exact p0
    rw [if_pos p0]
    go_enter Tryz.func37, Tryz.ntmps37
    go_wp2_with (first       | (go_at_call 70; refine (r_numeric _ _).mono ?_; rintro e w' ⟨rfl, rfl⟩)       | (go_at_call 71; refine (r_shared _ _ _).mono ?_; rintro e w' ⟨rfl, rfl⟩))
    iterate 5 (try ((first | (go_quiet (fail)) | (go_region_held3 (fun w' => w'.cell? ⟨b, o, none⟩ = some (.int .i64 t0) ∧ w'.cell? ⟨b, o + 1, none⟩ = some (.int .i64 t1)) (first | exact ⟨h0, h1⟩) (first       | (go_at_call 70; refine (r_numeric _ _).mono ?_; rintro e w' ⟨rfl, rfl⟩)       | (go_at_call 71; refine (r_shared _ _ _).mono ?_; rintro e w' ⟨rfl, rfl⟩))) | fail); try (go_wp2_with (first       | (go_at_call 70; refine (r_numeric _ _).mono ?_; rintro e w' ⟨rfl, rfl⟩)       | (go_at_call 71; refine (r_shared _ _ _).mono ?_; rintro e w' ⟨rfl, rfl⟩)))))
    all_goals (go_ret; exact ⟨rfl, by first | exact ⟨0, rfl⟩ | exact ⟨_, rfl⟩ | exact dr2 _ _ _ | exact dr3 _ _ _ _⟩)
  · have q0 : (shT t0 t1 != 0) = true := by rw [bne_iff_ne]; exact p0
    rw [if_neg p0]
    go_enter Tryz.func37, Tryz.ntmps37
    go_wp2_with (first       | (go_at_call 70; refine (r_numeric _ _).mono ?_; rintro e w' ⟨rfl, rfl⟩)       | (go_at_call 71; refine (r_shared _ _ _).mono ?_; rintro e w' ⟨rfl, rfl⟩))
    iterate 5 (try ((first | (go_quiet (fail)) | (go_region_held3 (fun w' => w'.cell? ⟨b, o, none⟩ = some (.int .i64 t0) ∧ w'.cell? ⟨b, o + 1, none⟩ = some (.int .i64 t1)) (first | exact ⟨h0, h1⟩) (first       | (go_at_call 70; refine (r_numeric _ _).mono ?_; rintro e w' ⟨rfl, rfl⟩)       | (go_at_call 71; refine (r_shared _ _ _).mono ?_; rintro e w' ⟨rfl, rfl⟩))) | fail); try (go_wp2_with (first       | (go_at_call 70; refine (r_numeric _ _).mono ?_; rintro e w' ⟨rfl, rfl⟩)       | (go_at_call 71; refine (r_shared _ _ _).mono ?_; rintro e w' ⟨rfl, rfl⟩)))))
    all_goals (go_ret; exact ⟨rfl, by first | exact ⟨0, rfl⟩ | exact ⟨_, rfl⟩ | exact dr2 _ _ _ | exact dr3 _ _ _ _⟩)

set_option maxRecDepth 100000 in
set_option maxHeartbeats 2000000 in
theorem r_typed15 (w : World) (b o cap : Nat) (t0 t1 : Int) (h0 : w.cell? ⟨b, o, none⟩ = some (.int .i64 t0)) (h1 : w.cell? ⟨b, o + 1, none⟩ = some (.int .i64 t1)) :
    Calls Tryz.prog 37 #[.int .i64 15, .slice (some ⟨b, o, none⟩) 2 cap] w fun e w' => e = .returned (.int .i64 (if shT t0 t1 = 0 then 0 else 1)) ∧ ∃ n, w' = w.drewN n := by
  by_cases p0 : shT t0 t1 = 0
  · have q0 : (shT t0 t1 != 0) = false := by rw [bne_eq_false_iff_eq]; exact p0
    rw [if_pos p0]
    go_enter Tryz.func37, Tryz.ntmps37
    go_wp2_with (first       | (go_at_call 70; refine (r_numeric _ _).mono ?_; rintro e w' ⟨rfl, rfl⟩)       | (go_at_call 71; refine (r_shared _ _ _).mono ?_; rintro e w' ⟨rfl, rfl⟩))
    iterate 5 (try ((first | (go_quiet (fail)) | (go_region_held3 (fun w' => w'.cell? ⟨b, o, none⟩ = some (.int .i64 t0) ∧ w'.cell? ⟨b, o + 1, none⟩ = some (.int .i64 t1)) (first | exact ⟨h0, h1⟩) (first       | (go_at_call 70; refine (r_numeric _ _).mono ?_; rintro e w' ⟨rfl, rfl⟩)       | (go_at_call 71; refine (r_shared _ _ _).mono ?_; rintro e w' ⟨rfl, rfl⟩))) | fail); try (go_wp2_with (first       | (go_at_call 70; refine (r_numeric _ _).mono ?_; rintro e w' ⟨rfl, rfl⟩)       | (go_at_call 71; refine (r_shared _ _ _).mono ?_; rintro e w' ⟨rfl, rfl⟩)))))
    all_goals (go_ret; exact ⟨rfl, by first | exact ⟨0, rfl⟩ | exact ⟨_, rfl⟩ | exact dr2 _ _ _ | exact dr3 _ _ _ _⟩)
  · have q0 : (shT t0 t1 != 0) = true := by rw [bne_iff_ne]; exact p0
    rw [if_neg p0]
    go_enter Tryz.func37, Tryz.ntmps37
    go_wp2_with (first       | (go_at_call 70; refine (r_numeric _ _).mono ?_; rintro e w' ⟨rfl, rfl⟩)       | (go_at_call 71; refine (r_shared _ _ _).mono ?_; rintro e w' ⟨rfl, rfl⟩))
    iterate 5 (try ((first | (go_quiet (fail)) | (go_region_held3 (fun w' => w'.cell? ⟨b, o, none⟩ = some (.int .i64 t0) ∧ w'.cell? ⟨b, o + 1, none⟩ = some (.int .i64 t1)) (first | exact ⟨h0, h1⟩) (first       | (go_at_call 70; refine (r_numeric _ _).mono ?_; rintro e w' ⟨rfl, rfl⟩)       | (go_at_call 71; refine (r_shared _ _ _).mono ?_; rintro e w' ⟨rfl, rfl⟩))) | fail); try (go_wp2_with (first       | (go_at_call 70; refine (r_numeric _ _).mono ?_; rintro e w' ⟨rfl, rfl⟩)       | (go_at_call 71; refine (r_shared _ _ _).mono ?_; rintro e w' ⟨rfl, rfl⟩)))))
    all_goals (go_ret; exact ⟨rfl, by first | exact ⟨0, rfl⟩ | exact ⟨_, rfl⟩ | exact dr2 _ _ _ | exact dr3 _ _ _ _⟩)

set_option maxRecDepth 100000 in
set_option maxHeartbeats 2000000 in
theorem r_typed16 (w : World) (b o cap : Nat) (t0 t1 : Int) (h0 : w.cell? ⟨b, o, none⟩ = some (.int .i64 t0)) (h1 : w.cell? ⟨b, o + 1, none⟩ = some (.int .i64 t1)) :
    Calls Tryz.prog 37 #[.int .i64 16, .slice (some ⟨b, o, none⟩) 2 cap] w fun e w' => e = .returned (.int .i64 (if shT t0 t1 = 0 then 0 else 1)) ∧ ∃ n, w' = w.drewN n := by
  by_cases p0 : shT t0 t1 = 0
  · have q0 : (shT t0 t1 != 0) = false := by rw [bne_eq_false_iff_eq]; exact p0
    rw [if_pos p0]
    go_enter Tryz.func37, Tryz.ntmps37
    go_wp2_with (first       | (go_at_call 70; refine (r_numeric _ _).mono ?_; rintro e w' ⟨rfl, rfl⟩)       | (go_at_call 71; refine (r_shared _ _ _).mono ?_; rintro e w' ⟨rfl, rfl⟩))
    iterate 5 (try ((first | (go_quiet (fail)) | (go_region_held3 (fun w' => w'.cell? ⟨b, o, none⟩ = some (.int .i64 t0) ∧ w'.cell? ⟨b, o + 1, none⟩ = some (.int .i64 t1)) (first | exact ⟨h0, h1⟩) (first       | (go_at_call 70; refine (r_numeric _ _).mono ?_; rintro e w' ⟨rfl, rfl⟩)       | (go_at_call 71; refine (r_shared _ _ _).mono ?_; rintro e w' ⟨rfl, rfl⟩))) | fail); try (go_wp2_with (first       | (go_at_call 70; refine (r_numeric _ _).mono ?_; rintro e w' ⟨rfl, rfl⟩)       | (go_at_call 71; refine (r_shared _ _ _).mono ?_; rintro e w' ⟨rfl, rfl⟩)))))
    all_goals (go_ret; exact ⟨rfl, by first | exact ⟨0, rfl⟩ | exact ⟨_, rfl⟩ | exact dr2 _ _ _ | exact dr3 _ _ _ _⟩)
  · have q0 : (shT t0 t1 != 0) = true := by rw [bne_iff_ne]; exact p0
    rw [if_neg p0]
    go_enter Tryz.func37, Tryz.ntmps37
    go_wp2_with (first       | (go_at_call 70; refine (r_numeric _ _).mono ?_; rintro e w' ⟨rfl, rfl⟩)       | (go_at_call 71; refine (r_shared _ _ _).mono ?_; rintro e w' ⟨rfl, rfl⟩))
    iterate 5 (try ((first | (go_quiet (fail)) | (go_region_held3 (fun w' => w'.cell? ⟨b, o, none⟩ = some (.int .i64 t0) ∧ w'.cell? ⟨b, o + 1, none⟩ = some (.int .i64 t1)) (first | exact ⟨h0, h1⟩) (first       | (go_at_call 70; refine (r_numeric _ _).mono ?_; rintro e w' ⟨rfl, rfl⟩)       | (go_at_call 71; refine (r_shared _ _ _).mono ?_; rintro e w' ⟨rfl, rfl⟩))) | fail); try (go_wp2_with (first       | (go_at_call 70; refine (r_numeric _ _).mono ?_; rintro e w' ⟨rfl, rfl⟩)       | (go_at_call 71; refine (r_shared _ _ _).mono ?_; rintro e w' ⟨rfl, rfl⟩)))))
    all_goals (go_ret; exact ⟨rfl, by first | exact ⟨0, rfl⟩ | exact ⟨_, rfl⟩ | exact dr2 _ _ _ | exact dr3 _ _ _ _⟩)

set_option maxRecDepth 100000 in
set_option maxHeartbeats 2000000 in
theorem r_typed17 (w : World) (b o cap : Nat) (t0 t1 : Int) (h0 : w.cell? ⟨b, o, none⟩ = some (.int .i64 t0)) (h1 : w.cell? ⟨b, o + 1, none⟩ = some (.int .i64 t1)) :
    Calls Tryz.prog 37 #[.int .i64 17, .slice (some ⟨b, o, none⟩) 2 cap] w fun e w' => e = .returned (.int .i64 (if shT t0 t1 = 0 then 0 else 1)) ∧ ∃ n, w' = w.drewN n := by
  by_cases p0 : shT t0 t1 = 0
  · have q0 : (shT t0 t1 != 0) = false := by rw [bne_eq_false_iff_eq]; exact p0
    rw [if_pos p0]
    go_enter Tryz.func37, Tryz.ntmps37
    go_wp2_with (first       | (go_at_call 70; refine (r_numeric _ _).mono ?_; rintro e w' ⟨rfl, rfl⟩)       | (go_at_call 71; refine (r_shared _ _ _).mono ?_; rintro e w' ⟨rfl, rfl⟩))
    iterate 5 (try ((first | (go_quiet (fail)) | (go_region_held3 (fun w' => w'.cell? ⟨b, o, none⟩ = some (.int .i64 t0) ∧ w'.cell? ⟨b, o + 1, none⟩ = some (.int .i64 t1)) (first | exact ⟨h0, h1⟩) (first       | (go_at_call 70; refine (r_numeric _ _).mono ?_; rintro e w' ⟨rfl, rfl⟩)       | (go_at_call 71; refine (r_shared _ _ _).mono ?_; rintro e w' ⟨rfl, rfl⟩))) | fail); try (go_wp2_with (first       | (go_at_call 70; refine (r_numeric _ _).mono ?_; rintro e w' ⟨rfl, rfl⟩)       | (go_at_call 71; refine (r_shared _ _ _).mono ?_; rintro e w' ⟨rfl, rfl⟩)))))
    all_goals (go_ret; exact ⟨rfl, by first | exact ⟨0, rfl⟩ | exact ⟨_, rfl⟩ | exact dr2 _ _ _ | exact dr3 _ _ _ _⟩)
  · have q0 : (shT t0 t1 != 0) = true := by rw [bne_iff_ne]; exact p0
    rw [if_neg p0]
    go_enter Tryz.func37, Tryz.ntmps37
    go_wp2_with (first       | (go_at_call 70; refine (r_numeric _ _).mono ?_; rintro e w' ⟨rfl, rfl⟩)       | (go_at_call 71; refine (r_shared _ _ _).mono ?_; rintro e w' ⟨rfl, rfl⟩))
    iterate 5 (try ((first | (go_quiet (fail)) | (go_region_held3 (fun w' => w'.cell? ⟨b, o, none⟩ = some (.int .i64 t0) ∧ w'.cell? ⟨b, o + 1, none⟩ = some (.int .i64 t1)) (first | exact ⟨h0, h1⟩) (first       | (go_at_call 70; refine (r_numeric _ _).mono ?_; rintro e w' ⟨rfl, rfl⟩)       | (go_at_call 71; refine (r_shared _ _ _).mono ?_; rintro e w' ⟨rfl, rfl⟩))) | fail); try (go_wp2_with (first       | (go_at_call 70; refine (r_numeric _ _).mono ?_; rintro e w' ⟨rfl, rfl⟩)       | (go_at_call 71; refine (r_shared _ _ _).mono ?_; rintro e w' ⟨rfl, rfl⟩)))))
    all_goals (go_ret; exact ⟨rfl, by first | exact ⟨0, rfl⟩ | exact ⟨_, rfl⟩ | exact dr2 _ _ _ | exact dr3 _ _ _ _⟩)

set_option maxRecDepth 100000 in
set_option maxHeartbeats 2000000 in
theorem r_typed18 (w : World) (b o cap : Nat) (t0 t1 : Int) (h0 : w.cell? ⟨b, o, none⟩ = some (.int .i64 t0)) (h1 : w.cell? ⟨b, o + 1, none⟩ = some (.int .i64 t1)) :
    Calls Tryz.prog 37 #[.int .i64 18, .slice (some ⟨b, o, none⟩) 2 cap] w fun e w' => e = .returned (.int .i64 (if shT t0 t1 = 0 then 0 else 1)) ∧ ∃ n, w' = w.drewN n := by
  by_cases p0 : shT t0 t1 = 0
  · have q0 : (shT t0 t1 != 0) = false := by rw [bne_eq_false_iff_eq]; exact p0
    rw [if_pos p0]
    go_enter Tryz.func37, Tryz.ntmps37
    go_wp2_with (first       | (go_at_call 70; refine (r_numeric _ _).mono ?_; rintro e w' ⟨rfl, rfl⟩)       | (go_at_call 71; refine (r_shared _ _ _).mono ?_; rintro e w' ⟨rfl, rfl⟩))
    iterate 5 (try ((first | (go_quiet (fail)) | (go_region_held3 (fun w' => w'.cell? ⟨b, o, none⟩ = some (.int .i64 t0) ∧ w'.cell? ⟨b, o + 1, none⟩ = some (.int .i64 t1)) (first | exact ⟨h0, h1⟩) (first       | (go_at_call 70; refine (r_numeric _ _).mono ?_; rintro e w' ⟨rfl, rfl⟩)       | (go_at_call 71; refine (r_shared _ _ _).mono ?_; rintro e w' ⟨rfl, rfl⟩))) | fail); try (go_wp2_with (first       | (go_at_call 70; refine (r_numeric _ _).mono ?_; rintro e w' ⟨rfl, rfl⟩)       | (go_at_call 71; refine (r_shared _ _ _).mono ?_; rintro e w' ⟨rfl, rfl⟩)))))
    all_goals (go_ret; exact ⟨rfl, by first | exact ⟨0, rfl⟩ | exact ⟨_, rfl⟩ | exact dr2 _ _ _ | exact dr3 _ _ _ _⟩)
  · have q0 : (shT t0 t1 != 0) = true := by rw [bne_iff_ne]; exact p0
    rw [if_neg p0]
    go_enter Tryz.func37, Tryz.ntmps37
    go_wp2_with (first       | (go_at_call 70; refine (r_numeric _ _).mono ?_; rintro e w' ⟨rfl, rfl⟩)       | (go_at_call 71; refine (r_shared _ _ _).mono ?_; rintro e w' ⟨rfl, rfl⟩))
    iterate 5 (try ((first | (go_quiet (fail)) | (go_region_held3 (fun w' => w'.cell? ⟨b, o, none⟩ = some (.int .i64 t0) ∧ w'.cell? ⟨b, o + 1, none⟩ = some (.int .i64 t1)) (first | exact ⟨h0, h1⟩) (first       | (go_at_call 70; refine (r_numeric _ _).mono ?_; rintro e w' ⟨rfl, rfl⟩)       | (go_at_call 71; refine (r_shared _ _ _).mono ?_; rintro e w' ⟨rfl, rfl⟩))) | fail); try (go_wp2_with (first       | (go_at_call 70; refine (r_numeric _ _).mono ?_; rintro e w' ⟨rfl, rfl⟩)       | (go_at_call 71; refine (r_shared _ _ _).mono ?_; rintro e w' ⟨rfl, rfl⟩)))))
    all_goals (go_ret; exact ⟨rfl, by first | exact ⟨0, rfl⟩ | exact ⟨_, rfl⟩ | exact dr2 _ _ _ | exact dr3 _ _ _ _⟩)

set_option maxRecDepth 100000 in
set_option maxHeartbeats 2000000 in
theorem r_typed19 (w : World) (b o cap : Nat) (t0 t1 : Int) (h0 : w.cell? ⟨b, o, none⟩ = some (.int .i64 t0)) (h1 : w.cell? ⟨b, o + 1, none⟩ = some (.int .i64 t1)) :
    Calls Tryz.prog 37 #[.int .i64 19, .slice (some ⟨b, o, none⟩) 2 cap] w fun e w' => e = .returned (.int .i64 (if t0 = 1 then (if t1 = 1 then 1 else 0) else 0)) ∧ ∃ n, w' = w.drewN n := by
  by_cases p0 : t0 = 1
  · have q0 : (t0 == 1) = true := by rw [beq_iff_eq]; exact p0
    rw [if_pos p0]
    by_cases p1 : t1 = 1
    · have q1 : (t1 == 1) = true := by rw [beq_iff_eq]; exact p1
      rw [if_pos p1]
      go_enter Tryz.func37, Tryz.ntmps37
      go_wp2_with (first       | (go_at_call 70; refine (r_numeric _ _).mono ?_; rintro e w' ⟨rfl, rfl⟩)       | (go_at_call 71; refine (r_shared _ _ _).mono ?_; rintro e w' ⟨rfl, rfl⟩))
      iterate 5 (try ((first | (go_quiet (fail)) | (go_region_held3 (fun w' => w'.cell? ⟨b, o, none⟩ = some (.int .i64 t0) ∧ w'.cell? ⟨b, o + 1, none⟩ = some (.int .i64 t1)) (first | exact ⟨h0, h1⟩) (first       | (go_at_call 70; refine (r_numeric _ _).mono ?_; rintro e w' ⟨rfl, rfl⟩)       | (go_at_call 71; refine (r_shared _ _ _).mono ?_; rintro e w' ⟨rfl, rfl⟩))) | fail); try (go_wp2_with (first       | (go_at_call 70; refine (r_numeric _ _).mono ?_; rintro e w' ⟨rfl, rfl⟩)       | (go_at_call 71; refine (r_shared _ _ _).mono ?_; rintro e w' ⟨rfl, rfl⟩)))))
      all_goals (go_ret; exact ⟨rfl, by first | exact ⟨0, rfl⟩ | exact ⟨_, rfl⟩ | exact dr2 _ _ _ | exact dr3 _ _ _ _⟩)
    · have q1 : (t1 == 1) = false := by rw [beq_eq_false_iff_ne]; exact p1
      rw [if_neg p1]
      go_enter Tryz.func37, Tryz.ntmps37
      go_wp2_with (first       | (go_at_call 70; refine (r_numeric _ _).mono ?_; rintro e w' ⟨rfl, rfl⟩)       | (go_at_call 71; refine (r_shared _ _ _).mono ?_; rintro e w' ⟨rfl, rfl⟩))
      iterate 5 (try ((first | (go_quiet (fail)) | (go_region_held3 (fun w' => w'.cell? ⟨b, o, none⟩ = some (.int .i64 t0) ∧ w'.cell? ⟨b, o + 1, none⟩ = some (.int .i64 t1)) (first | exact ⟨h0, h1⟩) (first       | (go_at_call 70; refine (r_numeric _ _).mono ?_; rintro e w' ⟨rfl, rfl⟩)       | (go_at_call 71; refine (r_shared _ _ _).mono ?_; rintro e w' ⟨rfl, rfl⟩))) | fail); try (go_wp2_with (first       | (go_at_call 70; refine (r_numeric _ _).mono ?_; rintro e w' ⟨rfl, rfl⟩)       | (go_at_call 71; refine (r_shared _ _ _).mono ?_; rintro e w' ⟨rfl, rfl⟩)))))
      all_goals (go_ret; exact ⟨rfl, by first | exact ⟨0, rfl⟩ | exact ⟨_, rfl⟩ | exact dr2 _ _ _ | exact dr3 _ _ _ _⟩)
  · have q0 : (t0 == 1) = false := by rw [beq_eq_false_iff_ne]; exact p0
    rw [if_neg p0]
    go_enter Tryz.func37, Tryz.ntmps37
    go_wp2_with (first       | (go_at_call 70; refine (r_numeric _ _).mono ?_; rintro e w' ⟨rfl, rfl⟩)       | (go_at_call 71; refine (r_shared _ _ _).mono ?_; rintro e w' ⟨rfl, rfl⟩))
    iterate 5 (try ((first | (go_quiet (fail)) | (go_region_held3 (fun w' => w'.cell? ⟨b, o, none⟩ = some (.int .i64 t0) ∧ w'.cell? ⟨b, o + 1, none⟩ = some (.int .i64 t1)) (first | exact ⟨h0, h1⟩) (first       | (go_at_call 70; refine (r_numeric _ _).mono ?_; rintro e w' ⟨rfl, rfl⟩)       | (go_at_call 71; refine (r_shared _ _ _).mono ?_; rintro e w' ⟨rfl, rfl⟩))) | fail); try (go_wp2_with (first       | (go_at_call 70; refine (r_numeric _ _).mono ?_; rintro e w' ⟨rfl, rfl⟩)       | (go_at_call 71; refine (r_shared _ _ _).mono ?_; rintro e w' ⟨rfl, rfl⟩)))))
    all_goals (go_ret; exact ⟨rfl, by first | exact ⟨0, rfl⟩ | exact ⟨_, rfl⟩ | exact dr2 _ _ _ | exact dr3 _ _ _ _⟩)

set_option maxRecDepth 100000 in
set_option maxHeartbeats 2000000 in
theorem r_typed20 (w : World) (b o cap : Nat) (t0 t1 : Int) (h0 : w.cell? ⟨b, o, none⟩ = some (.int .i64 t0)) (h1 : w.cell? ⟨b, o + 1, none⟩ = some (.int .i64 t1)) :
    Calls Tryz.prog 37 #[.int .i64 20, .slice (some ⟨b, o, none⟩) 2 cap] w fun e w' => e = .returned (.int .i64 (if t0 = 1 then (if t1 = 1 then 1 else 0) else 0)) ∧ ∃ n, w' = w.drewN n := by
  by_cases p0 : t0 = 1
  · have q0 : (t0 == 1) = true := by rw [beq_iff_eq]; exact p0
    rw [if_pos p0]
    by_cases p1 : t1 = 1
    · have q1 : (t1 == 1) = true := by rw [beq_iff_eq]; exact p1
      rw [if_pos p1]
      go_enter Tryz.func37, Tryz.ntmps37
      go_wp2_with (first       | (go_at_call 70; refine (r_numeric _ _).mono ?_; rintro e w' ⟨rfl, rfl⟩)       | (go_at_call 71; refine (r_shared _ _ _).mono ?_; rintro e w' ⟨rfl, rfl⟩))
      iterate 5 (try ((first | (go_quiet (fail)) | (go_region_held3 (fun w' => w'.cell? ⟨b, o, none⟩ = some (.int .i64 t0) ∧ w'.cell? ⟨b, o + 1, none⟩ = some (.int .i64 t1)) (first | exact ⟨h0, h1⟩) (first       | (go_at_call 70; refine (r_numeric _ _).mono ?_; rintro e w' ⟨rfl, rfl⟩)       | (go_at_call 71; refine (r_shared _ _ _).mono ?_; rintro e w' ⟨rfl, rfl⟩))) | fail); try (go_wp2_with (first       | (go_at_call 70; refine (r_numeric _ _).mono ?_; rintro e w' ⟨rfl, rfl⟩)       | (go_at_call 71; refine (r_shared _ _ _).mono ?_; rintro e w' ⟨rfl, rfl⟩)))))
      all_goals (go_ret; exact ⟨rfl, by first | exact ⟨0, rfl⟩ | exact ⟨_, rfl⟩ | exact dr2 _ _ _ | exact dr3 _ _ _ _⟩)
    · have q1 : (t1 == 1) = false := by rw [beq_eq_false_iff_ne]; exact p1
      rw [if_neg p1]
      go_enter Tryz.func37, Tryz.ntmps37
      go_wp2_with (first       | (go_at_call 70; refine (r_numeric _ _).mono ?_; rintro e w' ⟨rfl, rfl⟩)       | (go_at_call 71; refine (r_shared _ _ _).mono ?_; rintro e w' ⟨rfl, rfl⟩))
      iterate 5 (try ((first | (go_quiet (fail)) | (go_region_held3 (fun w' => w'.cell? ⟨b, o, none⟩ = some (.int .i64 t0) ∧ w'.cell? ⟨b, o + 1, none⟩ = some (.int .i64 t1)) (first | exact ⟨h0, h1⟩) (first       | (go_at_call 70; refine (r_numeric _ _).mono ?_; rintro e w' ⟨rfl, rfl⟩)       | (go_at_call 71; refine (r_shared _ _ _).mono ?_; rintro e w' ⟨rfl, rfl⟩))) | fail); try (go_wp2_with (first       | (go_at_call 70; refine (r_numeric _ _).mono ?_; rintro e w' ⟨rfl, rfl⟩)       | (go_at_call 71; refine (r_shared _ _ _).mono ?_; rintro e w' ⟨rfl, rfl⟩)))))
      all_goals (go_ret; exact ⟨rfl, by first | exact ⟨0, rfl⟩ | exact ⟨_, rfl⟩ | exact dr2 _ _ _ | exact dr3 _ _ _ _⟩)
  · have q0 : (t0 == 1) = false := by rw [beq_eq_false_iff_ne]; exact p0
    rw [if_neg p0]
    go_enter Tryz.func37, Tryz.ntmps37
    go_wp2_with (first       | (go_at_call 70; refine (r_numeric _ _).mono ?_; rintro e w' ⟨rfl, rfl⟩)       | (go_at_call 71; refine (r_shared _ _ _).mono ?_; rintro e w' ⟨rfl, rfl⟩))
    iterate 5 (try ((first | (go_quiet (fail)) | (go_region_held3 (fun w' => w'.cell? ⟨b, o, none⟩ = some (.int .i64 t0) ∧ w'.cell? ⟨b, o + 1, none⟩ = some (.int .i64 t1)) (first | exact ⟨h0, h1⟩) (first       | (go_at_call 70; refine (r_numeric _ _).mono ?_; rintro e w' ⟨rfl, rfl⟩)       | (go_at_call 71; refine (r_shared _ _ _).mono ?_; rintro e w' ⟨rfl, rfl⟩))) | fail); try (go_wp2_with (first       | (go_at_call 70; refine (r_numeric _ _).mono ?_; rintro e w' ⟨rfl, rfl⟩)       | (go_at_call 71; refine (r_shared _ _ _).mono ?_; rintro e w' ⟨rfl, rfl⟩)))))
    all_goals (go_ret; exact ⟨rfl, by first | exact ⟨0, rfl⟩ | exact ⟨_, rfl⟩ | exact dr2 _ _ _ | exact dr3 _ _ _ _⟩)

set_option maxRecDepth 100000 in
set_option maxHeartbeats 2000000 in
theorem r_typed21 (w : World) (b o cap : Nat) (t0 t1 : Int) (h0 : w.cell? ⟨b, o, none⟩ = some (.int .i64 t0)) (h1 : w.cell? ⟨b, o + 1, none⟩ = some (.int .i64 t1)) :
    Calls Tryz.prog 37 #[.int .i64 21, .slice (some ⟨b, o, none⟩) 2 cap] w fun e w' => e = .returned (.int .i64 (shT t0 t1)) ∧ ∃ n, w' = w.drewN n := by
  go_enter Tryz.func37, Tryz.ntmps37
  go_wp2_with (first       | (go_at_call 70; refine (r_numeric _ _).mono ?_; rintro e w' ⟨rfl, rfl⟩)       | (go_at_call 71; refine (r_shared _ _ _).mono ?_; rintro e w' ⟨rfl, rfl⟩))
  iterate 5 (try ((first | (go_quiet (fail)) | (go_region_held3 (fun w' => w'.cell? ⟨b, o, none⟩ = some (.int .i64 t0) ∧ w'.cell? ⟨b, o + 1, none⟩ = some (.int .i64 t1)) (first | exact ⟨h0, h1⟩) (first       | (go_at_call 70; refine (r_numeric _ _).mono ?_; rintro e w' ⟨rfl, rfl⟩)       | (go_at_call 71; refine (r_shared _ _ _).mono ?_; rintro e w' ⟨rfl, rfl⟩))) | fail); try (go_wp2_with (first       | (go_at_call 70; refine (r_numeric _ _).mono ?_; rintro e w' ⟨rfl, rfl⟩)       | (go_at_call 71; refine (r_shared _ _ _).mono ?_; rintro e w' ⟨rfl, rfl⟩)))))
  all_goals (go_ret; exact ⟨rfl, by first | exact ⟨0, rfl⟩ | exact ⟨_, rfl⟩ | exact dr2 _ _ _ | exact dr3 _ _ _ _⟩)

set_option maxRecDepth 100000 in
set_option maxHeartbeats 2000000 in
theorem r_typed22 (w : World) (b o cap : Nat) (t0 t1 t2 : Int) (h0 : w.cell? ⟨b, o, none⟩ = some (.int .i64 t0)) (h1 : w.cell? ⟨b, o + 1, none⟩ = some (.int .i64 t1)) (h2 : w.cell? ⟨b, o + 2, none⟩ = some (.int .i64 t2)) :
    Calls Tryz.prog 37 #[.int .i64 22, .slice (some ⟨b, o, none⟩) 3 cap] w fun e w' => e = .returned (.int .i64 (if t0 = 1 then shT t1 t2 else 0)) ∧ ∃ n, w' = w.drewN n := by
  by_cases p0 : t0 = 1
  · have q0 : (t0 == 1) = true := by rw [beq_iff_eq]; exact p0
    rw [if_pos p0]
    go_enter Tryz.func37, Tryz.ntmps37
    go_wp2_with (first       | (go_at_call 70; refine (r_numeric _ _).mono ?_; rintro e w' ⟨rfl, rfl⟩)       | (go_at_call 71; refine (r_shared _ _ _).mono ?_; rintro e w' ⟨rfl, rfl⟩))
    iterate 5 (try ((first | (go_quiet (fail)) | (go_region_held3 (fun w' => w'.cell? ⟨b, o, none⟩ = some (.int .i64 t0) ∧ w'.cell? ⟨b, o + 1, none⟩ = some (.int .i64 t1) ∧ w'.cell? ⟨b, o + 2, none⟩ = some (.int .i64 t2)) (first | exact ⟨h0, h1, h2⟩) (first       | (go_at_call 70; refine (r_numeric _ _).mono ?_; rintro e w' ⟨rfl, rfl⟩)       | (go_at_call 71; refine (r_shared _ _ _).mono ?_; rintro e w' ⟨rfl, rfl⟩))) | fail); try (go_wp2_with (first       | (go_at_call 70; refine (r_numeric _ _).mono ?_; rintro e w' ⟨rfl, rfl⟩)       | (go_at_call 71; refine (r_shared _ _ _).mono ?_; rintro e w' ⟨rfl, rfl⟩)))))
    all_goals (go_ret; exact ⟨rfl, by first | exact ⟨0, rfl⟩ | exact ⟨_, rfl⟩ | exact dr2 _ _ _ | exact dr3 _ _ _ _⟩)
  · have q0 : (t0 == 1) = false := by rw [beq_eq_false_iff_ne]; exact p0
    rw [if_neg p0]
    go_enter Tryz.func37, Tryz.ntmps37
    go_wp2_with (first       | (go_at_call 70; refine (r_numeric _ _).mono ?_; rintro e w' ⟨rfl, rfl⟩)       | (go_at_call 71; refine (r_shared _ _ _).mono ?_; rintro e w' ⟨rfl, rfl⟩))
    iterate 5 (try ((first | (go_quiet (fail)) | (go_region_held3 (fun w' => w'.cell? ⟨b, o, none⟩ = some (.int .i64 t0) ∧ w'.cell? ⟨b, o + 1, none⟩ = some (.int .i64 t1) ∧ w'.cell? ⟨b, o + 2, none⟩ = some (.int .i64 t2)) (first | exact ⟨h0, h1, h2⟩) (first       | (go_at_call 70; refine (r_numeric _ _).mono ?_; rintro e w' ⟨rfl, rfl⟩)       | (go_at_call 71; refine (r_shared _ _ _).mono ?_; rintro e w' ⟨rfl, rfl⟩))) | fail); try (go_wp2_with (first       | (go_at_call 70; refine (r_numeric _ _).mono ?_; rintro e w' ⟨rfl, rfl⟩)       | (go_at_call 71; refine (r_shared _ _ _).mono ?_; rintro e w' ⟨rfl, rfl⟩)))))
    all_goals (go_ret; exact ⟨rfl, by first | exact ⟨0, rfl⟩ | exact ⟨_, rfl⟩ | exact dr2 _ _ _ | exact dr3 _ _ _ _⟩)
end Go.Proofs.YtfkjfeobhbocjaaGreatDoor
