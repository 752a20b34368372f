/- The document's own words on the type of a result: the call. -/
import Derived.Test.YtfkjfeobhbocjaaGreatDoorTyped
namespace Go.Proofs.YtfkjfeobhbocjaaGreatDoor
open Go.RowKit Go.Deep

/-- What the document says the type is; 0 where there is none. -/
def refT (op : Int) (ts : Nat → Int) : Int :=
  if op = 4 then (if ts 0 = 1 then 1 else 0) else if op = 5 then (if isNum (ts 0) = true then ts 0 else 0) else if op = 6 then (if isNum (ts 0) = true then 2 else 0) else if op = 7 then 1 else if op = 8 then 2
  else if op ≤ 11 then (if isNum (ts 0) = true then (if isNum (ts 1) = true then shT (ts 0) (ts 1) else 0) else 0)
  else if op = 12 then (if isNum (ts 0) = true then (if isNum (ts 1) = true then 3 else 0) else 0)
  else if op ≤ 18 then (if shT (ts 0) (ts 1) = 0 then 0 else 1)
  else if op ≤ 20 then (if ts 0 = 1 then (if ts 1 = 1 then 1 else 0) else 0)
  else if op = 21 then shT (ts 0) (ts 1) else (if ts 0 = 1 then shT (ts 1) (ts 2) else 0)

def docT (o : Int) : Value := if o = 0 then .tuple #[.int .i64 0, .int .i64 12] else .tuple #[.int .i64 o, .int .i64 0]
theorem ty4 {t : Int} (h : isTy t = true) : t = 1 ∨ t = 2 ∨ t = 3 ∨ t = 4 := by
  simp [isTy] at h
  omega
theorem agree (op : Int) (ts : Nat → Int) (n : Nat) (h1 : opn op = n) (h2 : n ≠ 0) (ha : allTy n ts) : tyRes (rowR op) (foldT (rowN op) ts n) = docT (refT op ts) := by
  have hk : op = 4 ∨ op = 5 ∨ op = 6 ∨ op = 7 ∨ op = 8 ∨ op = 9 ∨ op = 10 ∨ op = 11 ∨ op = 12 ∨ op = 13 ∨ op = 14 ∨ op = 15 ∨ op = 16 ∨ op = 17 ∨ op = 18 ∨ op = 19 ∨ op = 20 ∨ op = 21 ∨ op = 22 := by unfold opn at h1; split at h1 <;> omega
  rcases hk with rfl | rfl | rfl | rfl | rfl | rfl | rfl | rfl | rfl | rfl | rfl | rfl | rfl | rfl | rfl | rfl | rfl | rfl | rfl
  · obtain rfl : n = 1 := by simp [opn] at h1; omega
    have a0 := ty4 (ha 0 (by omega))
    generalize ht0 : ts 0 = t0 at *
    have hf : foldT (rowN 4) ts 1 = (some 0).bind fun sh => stepT (rowN 4 0) sh t0 := by simp only [foldT, ht0]
    have hr : refT 4 ts = refT 4 (fun j => if j = 0 then t0 else if j = 1 then 0 else 0) := by simp only [refT, ht0]; rfl
    rw [hf, hr]
    clear hf hr
    rcases a0 with rfl | rfl | rfl | rfl <;> rfl
  · obtain rfl : n = 1 := by simp [opn] at h1; omega
    have a0 := ty4 (ha 0 (by omega))
    generalize ht0 : ts 0 = t0 at *
    have hf : foldT (rowN 5) ts 1 = (some 0).bind fun sh => stepT (rowN 5 0) sh t0 := by simp only [foldT, ht0]
    have hr : refT 5 ts = refT 5 (fun j => if j = 0 then t0 else if j = 1 then 0 else 0) := by simp only [refT, ht0]; rfl
    rw [hf, hr]
    clear hf hr
    rcases a0 with rfl | rfl | rfl | rfl <;> rfl
  · obtain rfl : n = 1 := by simp [opn] at h1; omega
    have a0 := ty4 (ha 0 (by omega))
    generalize ht0 : ts 0 = t0 at *
    have hf : foldT (rowN 6) ts 1 = (some 0).bind fun sh => stepT (rowN 6 0) sh t0 := by simp only [foldT, ht0]
    have hr : refT 6 ts = refT 6 (fun j => if j = 0 then t0 else if j = 1 then 0 else 0) := by simp only [refT, ht0]; rfl
    rw [hf, hr]
    clear hf hr
    rcases a0 with rfl | rfl | rfl | rfl <;> rfl
  · obtain rfl : n = 1 := by simp [opn] at h1; omega
    have a0 := ty4 (ha 0 (by omega))
    generalize ht0 : ts 0 = t0 at *
    have hf : foldT (rowN 7) ts 1 = (some 0).bind fun sh => stepT (rowN 7 0) sh t0 := by simp only [foldT, ht0]
    have hr : refT 7 ts = refT 7 (fun j => if j = 0 then t0 else if j = 1 then 0 else 0) := by simp only [refT, ht0]; rfl
    rw [hf, hr]
    clear hf hr
    rcases a0 with rfl | rfl | rfl | rfl <;> rfl
  · obtain rfl : n = 1 := by simp [opn] at h1; omega
    have a0 := ty4 (ha 0 (by omega))
    generalize ht0 : ts 0 = t0 at *
    have hf : foldT (rowN 8) ts 1 = (some 0).bind fun sh => stepT (rowN 8 0) sh t0 := by simp only [foldT, ht0]
    have hr : refT 8 ts = refT 8 (fun j => if j = 0 then t0 else if j = 1 then 0 else 0) := by simp only [refT, ht0]; rfl
    rw [hf, hr]
    clear hf hr
    rcases a0 with rfl | rfl | rfl | rfl <;> rfl
  · obtain rfl : n = 2 := by simp [opn] at h1; omega
    have a0 := ty4 (ha 0 (by omega))
    have a1 := ty4 (ha 1 (by omega))
    generalize ht0 : ts 0 = t0 at *
    generalize ht1 : ts 1 = t1 at *
    have hf : foldT (rowN 9) ts 2 = ((some 0).bind fun sh => stepT (rowN 9 0) sh t0).bind fun sh => stepT (rowN 9 1) sh t1 := by simp only [foldT, ht0, ht1]
    have hr : refT 9 ts = refT 9 (fun j => if j = 0 then t0 else if j = 1 then t1 else 0) := by simp only [refT, ht0, ht1]; rfl
    rw [hf, hr]
    clear hf hr
    rcases a0 with rfl | rfl | rfl | rfl <;> rcases a1 with rfl | rfl | rfl | rfl <;> rfl
  · obtain rfl : n = 2 := by simp [opn] at h1; omega
    have a0 := ty4 (ha 0 (by omega))
    have a1 := ty4 (ha 1 (by omega))
    generalize ht0 : ts 0 = t0 at *
    generalize ht1 : ts 1 = t1 at *
    have hf : foldT (rowN 10) ts 2 = ((some 0).bind fun sh => stepT (rowN 10 0) sh t0).bind fun sh => stepT (rowN 10 1) sh t1 := by simp only [foldT, ht0, ht1]
    have hr : refT 10 ts = refT 10 (fun j => if j = 0 then t0 else if j = 1 then t1 else 0) := by simp only [refT, ht0, ht1]; rfl
    rw [hf, hr]
    clear hf hr
    rcases a0 with rfl | rfl | rfl | rfl <;> rcases a1 with rfl | rfl | rfl | rfl <;> rfl
  · obtain rfl : n = 2 := by simp [opn] at h1; omega
    have a0 := ty4 (ha 0 (by omega))
    have a1 := ty4 (ha 1 (by omega))
    generalize ht0 : ts 0 = t0 at *
    generalize ht1 : ts 1 = t1 at *
    have hf : foldT (rowN 11) ts 2 = ((some 0).bind fun sh => stepT (rowN 11 0) sh t0).bind fun sh => stepT (rowN 11 1) sh t1 := by simp only [foldT, ht0, ht1]
    have hr : refT 11 ts = refT 11 (fun j => if j = 0 then t0 else if j = 1 then t1 else 0) := by simp only [refT, ht0, ht1]; rfl
    rw [hf, hr]
    clear hf hr
    rcases a0 with rfl | rfl | rfl | rfl <;> rcases a1 with rfl | rfl | rfl | rfl <;> rfl
  · obtain rfl : n = 2 := by simp [opn] at h1; omega
    have a0 := ty4 (ha 0 (by omega))
    have a1 := ty4 (ha 1 (by omega))
    generalize ht0 : ts 0 = t0 at *
    generalize ht1 : ts 1 = t1 at *
    have hf : foldT (rowN 12) ts 2 = ((some 0).bind fun sh => stepT (rowN 12 0) sh t0).bind fun sh => stepT (rowN 12 1) sh t1 := by simp only [foldT, ht0, ht1]
    have hr : refT 12 ts = refT 12 (fun j => if j = 0 then t0 else if j = 1 then t1 else 0) := by simp only [refT, ht0, ht1]; rfl
    rw [hf, hr]
    clear hf hr
    rcases a0 with rfl | rfl | rfl | rfl <;> rcases a1 with rfl | rfl | rfl | rfl <;> rfl
  · obtain rfl : n = 2 := by simp [opn] at h1; omega
    have a0 := ty4 (ha 0 (by omega))
    have a1 := ty4 (ha 1 (by omega))
    generalize ht0 : ts 0 = t0 at *
    generalize ht1 : ts 1 = t1 at *
    have hf : foldT (rowN 13) ts 2 = ((some 0).bind fun sh => stepT (rowN 13 0) sh t0).bind fun sh => stepT (rowN 13 1) sh t1 := by simp only [foldT, ht0, ht1]
    have hr : refT 13 ts = refT 13 (fun j => if j = 0 then t0 else if j = 1 then t1 else 0) := by simp only [refT, ht0, ht1]; rfl
    rw [hf, hr]
    clear hf hr
    rcases a0 with rfl | rfl | rfl | rfl <;> rcases a1 with rfl | rfl | rfl | rfl <;> rfl
  · obtain rfl : n = 2 := by simp [opn] at h1; omega
    have a0 := ty4 (ha 0 (by omega))
    have a1 := ty4 (ha 1 (by omega))
    generalize ht0 : ts 0 = t0 at *
    generalize ht1 : ts 1 = t1 at *
    have hf : foldT (rowN 14) ts 2 = ((some 0).bind fun sh => stepT (rowN 14 0) sh t0).bind fun sh => stepT (rowN 14 1) sh t1 := by simp only [foldT, ht0, ht1]
    have hr : refT 14 ts = refT 14 (fun j => if j = 0 then t0 else if j = 1 then t1 else 0) := by simp only [refT, ht0, ht1]; rfl
    rw [hf, hr]
    clear hf hr
    rcases a0 with rfl | rfl | rfl | rfl <;> rcases a1 with rfl | rfl | rfl | rfl <;> rfl
  · obtain rfl : n = 2 := by simp [opn] at h1; omega
    have a0 := ty4 (ha 0 (by omega))
    have a1 := ty4 (ha 1 (by omega))
    generalize ht0 : ts 0 = t0 at *
    generalize ht1 : ts 1 = t1 at *
    have hf : foldT (rowN 15) ts 2 = ((some 0).bind fun sh => stepT (rowN 15 0) sh t0).bind fun sh => stepT (rowN 15 1) sh t1 := by simp only [foldT, ht0, ht1]
    have hr : refT 15 ts = refT 15 (fun j => if j = 0 then t0 else if j = 1 then t1 else 0) := by simp only [refT, ht0, ht1]; rfl
    rw [hf, hr]
    clear hf hr
    rcases a0 with rfl | rfl | rfl | rfl <;> rcases a1 with rfl | rfl | rfl | rfl <;> rfl
  · obtain rfl : n = 2 := by simp [opn] at h1; omega
    have a0 := ty4 (ha 0 (by omega))
    have a1 := ty4 (ha 1 (by omega))
    generalize ht0 : ts 0 = t0 at *
    generalize ht1 : ts 1 = t1 at *
    have hf : foldT (rowN 16) ts 2 = ((some 0).bind fun sh => stepT (rowN 16 0) sh t0).bind fun sh => stepT (rowN 16 1) sh t1 := by simp only [foldT, ht0, ht1]
    have hr : refT 16 ts = refT 16 (fun j => if j = 0 then t0 else if j = 1 then t1 else 0) := by simp only [refT, ht0, ht1]; rfl
    rw [hf, hr]
    clear hf hr
    rcases a0 with rfl | rfl | rfl | rfl <;> rcases a1 with rfl | rfl | rfl | rfl <;> rfl
  · obtain rfl : n = 2 := by simp [opn] at h1; omega
    have a0 := ty4 (ha 0 (by omega))
    have a1 := ty4 (ha 1 (by omega))
    generalize ht0 : ts 0 = t0 at *
    generalize ht1 : ts 1 = t1 at *
    have hf : foldT (rowN 17) ts 2 = ((some 0).bind fun sh => stepT (rowN 17 0) sh t0).bind fun sh => stepT (rowN 17 1) sh t1 := by simp only [foldT, ht0, ht1]
    have hr : refT 17 ts = refT 17 (fun j => if j = 0 then t0 else if j = 1 then t1 else 0) := by simp only [refT, ht0, ht1]; rfl
    rw [hf, hr]
    clear hf hr
    rcases a0 with rfl | rfl | rfl | rfl <;> rcases a1 with rfl | rfl | rfl | rfl <;> rfl
  · obtain rfl : n = 2 := by simp [opn] at h1; omega
    have a0 := ty4 (ha 0 (by omega))
    have a1 := ty4 (ha 1 (by omega))
    generalize ht0 : ts 0 = t0 at *
    generalize ht1 : ts 1 = t1 at *
    have hf : foldT (rowN 18) ts 2 = ((some 0).bind fun sh => stepT (rowN 18 0) sh t0).bind fun sh => stepT (rowN 18 1) sh t1 := by simp only [foldT, ht0, ht1]
    have hr : refT 18 ts = refT 18 (fun j => if j = 0 then t0 else if j = 1 then t1 else 0) := by simp only [refT, ht0, ht1]; rfl
    rw [hf, hr]
    clear hf hr
    rcases a0 with rfl | rfl | rfl | rfl <;> rcases a1 with rfl | rfl | rfl | rfl <;> rfl
  · obtain rfl : n = 2 := by simp [opn] at h1; omega
    have a0 := ty4 (ha 0 (by omega))
    have a1 := ty4 (ha 1 (by omega))
    generalize ht0 : ts 0 = t0 at *
    generalize ht1 : ts 1 = t1 at *
    have hf : foldT (rowN 19) ts 2 = ((some 0).bind fun sh => stepT (rowN 19 0) sh t0).bind fun sh => stepT (rowN 19 1) sh t1 := by simp only [foldT, ht0, ht1]
    have hr : refT 19 ts = refT 19 (fun j => if j = 0 then t0 else if j = 1 then t1 else 0) := by simp only [refT, ht0, ht1]; rfl
    rw [hf, hr]
    clear hf hr
    rcases a0 with rfl | rfl | rfl | rfl <;> rcases a1 with rfl | rfl | rfl | rfl <;> rfl
  · obtain rfl : n = 2 := by simp [opn] at h1; omega
    have a0 := ty4 (ha 0 (by omega))
    have a1 := ty4 (ha 1 (by omega))
    generalize ht0 : ts 0 = t0 at *
    generalize ht1 : ts 1 = t1 at *
    have hf : foldT (rowN 20) ts 2 = ((some 0).bind fun sh => stepT (rowN 20 0) sh t0).bind fun sh => stepT (rowN 20 1) sh t1 := by simp only [foldT, ht0, ht1]
    have hr : refT 20 ts = refT 20 (fun j => if j = 0 then t0 else if j = 1 then t1 else 0) := by simp only [refT, ht0, ht1]; rfl
    rw [hf, hr]
    clear hf hr
    rcases a0 with rfl | rfl | rfl | rfl <;> rcases a1 with rfl | rfl | rfl | rfl <;> rfl
  · obtain rfl : n = 2 := by simp [opn] at h1; omega
    have a0 := ty4 (ha 0 (by omega))
    have a1 := ty4 (ha 1 (by omega))
    generalize ht0 : ts 0 = t0 at *
    generalize ht1 : ts 1 = t1 at *
    have hf : foldT (rowN 21) ts 2 = ((some 0).bind fun sh => stepT (rowN 21 0) sh t0).bind fun sh => stepT (rowN 21 1) sh t1 := by simp only [foldT, ht0, ht1]
    have hr : refT 21 ts = refT 21 (fun j => if j = 0 then t0 else if j = 1 then t1 else 0) := by simp only [refT, ht0, ht1]; rfl
    rw [hf, hr]
    clear hf hr
    rcases a0 with rfl | rfl | rfl | rfl <;> rcases a1 with rfl | rfl | rfl | rfl <;> rfl
  · obtain rfl : n = 3 := by simp [opn] at h1; omega
    have a0 := ty4 (ha 0 (by omega))
    have a1 := ty4 (ha 1 (by omega))
    have a2 := ty4 (ha 2 (by omega))
    generalize ht0 : ts 0 = t0 at *
    generalize ht1 : ts 1 = t1 at *
    generalize ht2 : ts 2 = t2 at *
    have hf : foldT (rowN 22) ts 3 = (((some 0).bind fun sh => stepT (rowN 22 0) sh t0).bind fun sh => stepT (rowN 22 1) sh t1).bind fun sh => stepT (rowN 22 2) sh t2 := by simp only [foldT, ht0, ht1, ht2]
    have hr : refT 22 ts = refT 22 (fun j => if j = 0 then t0 else if j = 1 then t1 else t2) := by simp only [refT, ht0, ht1, ht2]; rfl
    rw [hf, hr]
    clear hf hr
    rcases a0 with rfl | rfl | rfl | rfl <;> rcases a1 with rfl | rfl | rfl | rfl <;> rcases a2 with rfl | rfl | rfl | rfl <;> rfl

theorem typed_all (w : World) (op : Int) (b o n cap : Nat) (ts : Nat → Int) (h : ∀ k, k < n → w.cell? ⟨b, o + k, none⟩ = some (.int .i64 (ts k))) (h1 : opn op = n) (h2 : n ≠ 0) :
    Calls Tryz.prog 37 #[.int .i64 op, .slice (some ⟨b, o, none⟩) n cap] w fun e w' => e = .returned (.int .i64 (refT op ts)) ∧ ∃ n, w' = w.drewN n := by
  have hk : op = 4 ∨ op = 5 ∨ op = 6 ∨ op = 7 ∨ op = 8 ∨ op = 9 ∨ op = 10 ∨ op = 11 ∨ op = 12 ∨ op = 13 ∨ op = 14 ∨ op = 15 ∨ op = 16 ∨ op = 17 ∨ op = 18 ∨ op = 19 ∨ op = 20 ∨ op = 21 ∨ op = 22 := by unfold opn at h1; split at h1 <;> omega
  rcases hk with rfl | rfl | rfl | rfl | rfl | rfl | rfl | rfl | rfl | rfl | rfl | rfl | rfl | rfl | rfl | rfl | rfl | rfl | rfl
  · obtain rfl : n = 1 := by simp [opn] at h1; omega
    exact r_typed4 w b o cap (ts 0) (h 0 (by omega))
  · obtain rfl : n = 1 := by simp [opn] at h1; omega
    exact r_typed5 w b o cap (ts 0) (h 0 (by omega))
  · obtain rfl : n = 1 := by simp [opn] at h1; omega
    exact r_typed6 w b o cap (ts 0) (h 0 (by omega))
  · obtain rfl : n = 1 := by simp [opn] at h1; omega
    exact r_typed7 w b o cap (ts 0) (h 0 (by omega))
  · obtain rfl : n = 1 := by simp [opn] at h1; omega
    exact r_typed8 w b o cap (ts 0) (h 0 (by omega))
  · obtain rfl : n = 2 := by simp [opn] at h1; omega
    exact r_typed9 w b o cap (ts 0) (ts 1) (h 0 (by omega)) (h 1 (by omega))
  · obtain rfl : n = 2 := by simp [opn] at h1; omega
    exact r_typed10 w b o cap (ts 0) (ts 1) (h 0 (by omega)) (h 1 (by omega))
  · obtain rfl : n = 2 := by simp [opn] at h1; omega
    exact r_typed11 w b o cap (ts 0) (ts 1) (h 0 (by omega)) (h 1 (by omega))
  · obtain rfl : n = 2 := by simp [opn] at h1; omega
    exact r_typed12 w b o cap (ts 0) (ts 1) (h 0 (by omega)) (h 1 (by omega))
  · obtain rfl : n = 2 := by simp [opn] at h1; omega
    exact r_typed13 w b o cap (ts 0) (ts 1) (h 0 (by omega)) (h 1 (by omega))
  · obtain rfl : n = 2 := by simp [opn] at h1; omega
    exact r_typed14 w b o cap (ts 0) (ts 1) (h 0 (by omega)) (h 1 (by omega))
  · obtain rfl : n = 2 := by simp [opn] at h1; omega
    exact r_typed15 w b o cap (ts 0) (ts 1) (h 0 (by omega)) (h 1 (by omega))
  · obtain rfl : n = 2 := by simp [opn] at h1; omega
    exact r_typed16 w b o cap (ts 0) (ts 1) (h 0 (by omega)) (h 1 (by omega))
  · obtain rfl : n = 2 := by simp [opn] at h1; omega
    exact r_typed17 w b o cap (ts 0) (ts 1) (h 0 (by omega)) (h 1 (by omega))
  · obtain rfl : n = 2 := by simp [opn] at h1; omega
    exact r_typed18 w b o cap (ts 0) (ts 1) (h 0 (by omega)) (h 1 (by omega))
  · obtain rfl : n = 2 := by simp [opn] at h1; omega
    exact r_typed19 w b o cap (ts 0) (ts 1) (h 0 (by omega)) (h 1 (by omega))
  · obtain rfl : n = 2 := by simp [opn] at h1; omega
    exact r_typed20 w b o cap (ts 0) (ts 1) (h 0 (by omega)) (h 1 (by omega))
  · obtain rfl : n = 2 := by simp [opn] at h1; omega
    exact r_typed21 w b o cap (ts 0) (ts 1) (h 0 (by omega)) (h 1 (by omega))
  · obtain rfl : n = 3 := by simp [opn] at h1; omega
    exact r_typed22 w b o cap (ts 0) (ts 1) (ts 2) (h 0 (by omega)) (h 1 (by omega)) (h 2 (by omega))
end Go.Proofs.YtfkjfeobhbocjaaGreatDoor
