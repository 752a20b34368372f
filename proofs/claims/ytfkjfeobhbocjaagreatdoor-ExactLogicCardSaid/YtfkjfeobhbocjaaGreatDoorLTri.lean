/- Truth values made by the law; cells of values. -/
import Derived.Test.YtfkjfeobhbocjaaGreatDoorLog
namespace Go.Proofs.YtfkjfeobhbocjaaGreatDoor
open Go.RowKit Go.Deep

theorem c_lval (x : Tri) (w : World) : Calls Tryz.prog 22 #[.int .u8 x.n] w fun e w' => e = .returned (V x.k x.n 0 noS) ∧ Below w.heap.size w w' := by
  have HR0 := Lib.hid (heap_alloc_new w (.cells #[.int .i64 0, .int .i64 0, .int .i64 0, .string ⟨#[]⟩] 46))
  have H0 := Lib.hid (fun W => m_truth 0 W)
  have H1 := Lib.hid (fun W => m_truth 1 W)
  have go : ∀ w1 : World, ∀ k n : Int, Below (w.alloc (.cells #[.int .i64 0, .int .i64 0, .int .i64 0, .string ⟨#[]⟩] 46)).heap.size (w.alloc (.cells #[.int .i64 0, .int .i64 0, .int .i64 0, .string ⟨#[]⟩] 46)) w1 → w1.heap[w.heap.size]? = some (.cells #[.int .i64 0, .int .i64 0, .int .i64 0, .string ⟨#[]⟩] 46 (0, 0)) ∧ Below w.heap.size w w1 := fun w1 k n hb => ⟨(hb.block _ (by simp)).trans HR0.out, btr ((Below.refl _ _).alloc (Nat.le_refl _) _) hb⟩
  have HG := Lib.hid go
  clear go HR0
  cases x with
  | F =>
    simp only [Tri.n, Tri.k]
    go_enter Tryz.func22, Tryz.ntmps22
    go_wp2_with fail
    refine (H0.out _).mono ?_
    rintro e w1 ⟨rfl, hb1⟩
    obtain ⟨hh1, B1⟩ := HG.out w1 0 0 hb1
    obtain ⟨r0, r1, r2, r3, f0, f1, f2, f3⟩ := res_at hh1
    have HH1 := Lib.hid hh1
    clear hh1 hb1 H0 H1 HG
    go_wp2
    exact bodyPost_ret (v := V 1 0 0 noS) (results_cell_row Tryz.results22 _ _ w.heap.size 46 _ (0, 0) _ rfl (put4 HH1.out _ _ _ _) Tryz.underlying46 rfl (by rw [info_v4]; rfl)) rfl ⟨rfl, below4 B1 _ (Nat.le_refl _) _ _ _ _⟩
  | T =>
    simp only [Tri.n, Tri.k]
    go_enter Tryz.func22, Tryz.ntmps22
    go_wp2_with fail
    refine (H1.out _).mono ?_
    rintro e w1 ⟨rfl, hb1⟩
    obtain ⟨hh1, B1⟩ := HG.out w1 0 0 hb1
    obtain ⟨r0, r1, r2, r3, f0, f1, f2, f3⟩ := res_at hh1
    have HH1 := Lib.hid hh1
    clear hh1 hb1 H0 H1 HG
    go_wp2
    exact bodyPost_ret (v := V 1 1 0 noS) (results_cell_row Tryz.results22 _ _ w.heap.size 46 _ (0, 0) _ rfl (put4 HH1.out _ _ _ _) Tryz.underlying46 rfl (by rw [info_v4]; rfl)) rfl ⟨rfl, below4 B1 _ (Nat.le_refl _) _ _ _ _⟩
  | M n h =>
    simp only [Tri.n, Tri.k]
    have H2 := Lib.hid (fun W => m_none n W)
    obtain ⟨h1, h2⟩ := h
    go_enter Tryz.func22, Tryz.ntmps22
    go_wp2_with fail
    refine (H2.out _).mono ?_
    rintro e w1 ⟨rfl, hb1⟩
    obtain ⟨hh1, B1⟩ := HG.out w1 0 0 hb1
    obtain ⟨r0, r1, r2, r3, f0, f1, f2, f3⟩ := res_at hh1
    have HH1 := Lib.hid hh1
    clear hh1 hb1 H0 H1 H2 HG
    go_wp2
    exact bodyPost_ret (v := V 0 n 0 noS) (results_cell_row Tryz.results22 _ _ w.heap.size 46 _ (0, 0) _ rfl (put4 HH1.out _ _ _ _) Tryz.underlying46 rfl (by rw [info_v4]; rfl)) rfl ⟨rfl, below4 B1 _ (Nat.le_refl _) _ _ _ _⟩

theorem ba {a w : World} (h : Below a.heap.size a w) (o : Obj) : Below a.heap.size a (w.alloc o) := h.alloc h.size o
theorem bs {a w : World} (h : Below a.heap.size a w) {r o : Nat} (hr : a.heap.size ≤ r) (v : Value) : Below a.heap.size a (w.setCell ⟨r, o, none⟩ v) := h.setCell (p := ⟨r, o, none⟩) hr v
theorem bd {a w : World} (h : Below a.heap.size a w) : Below a.heap.size a w.drew := Below.drew h
theorem At.drew {w : World} {b : Nat} {l : List (Int × Int × Int × ByteArray)} (h : At w b l) : At w.drew b l := h
theorem at_alloc1 (w : World) (k0 n0 d0 : Int) (s0 : ByteArray) : At (w.alloc (.cells #[.int .i64 k0, .int .i64 n0, .int .i64 d0, .string s0] 46)) w.heap.size [(k0, n0, d0, s0)] := by
  refine ⟨by simp, ?_⟩
  have h := heap_alloc_new w (.cells #[.int .i64 k0, .int .i64 n0, .int .i64 d0, .string s0] 46)
  intro j hj
  have hj' : j < 1 := hj
  match j, hj' with
  | 0, _ => exact ⟨by rw [cell_of_row _ _ _ _ _ _ h]; rfl, by rw [cell_of_row _ _ _ _ _ _ h]; rfl, by rw [cell_of_row _ _ _ _ _ _ h]; rfl, by rw [cell_of_row _ _ _ _ _ _ h]; rfl⟩
theorem at_of1 {w : World} {b : Nat} {k0 n0 d0 : Int} {s0 : ByteArray} (h : w.heap[b]? = some (.cells #[.int .i64 k0, .int .i64 n0, .int .i64 d0, .string s0] 46 (0, 0))) : At w b [(k0, n0, d0, s0)] := by
  refine ⟨(Array.getElem?_eq_some_iff.1 h).1, ?_⟩
  intro j hj
  have hj' : j < 1 := hj
  match j, hj' with
  | 0, _ => exact ⟨by rw [cell_of_row _ _ _ _ _ _ h]; rfl, by rw [cell_of_row _ _ _ _ _ _ h]; rfl, by rw [cell_of_row _ _ _ _ _ _ h]; rfl, by rw [cell_of_row _ _ _ _ _ _ h]; rfl⟩
theorem at_of2 {w : World} {b : Nat} {k0 n0 d0 : Int} {s0 : ByteArray} {k1 n1 d1 : Int} {s1 : ByteArray} (h : w.heap[b]? = some (.cells #[.int .i64 k0, .int .i64 n0, .int .i64 d0, .string s0, .int .i64 k1, .int .i64 n1, .int .i64 d1, .string s1] 46 (0, 0))) : At w b [(k0, n0, d0, s0), (k1, n1, d1, s1)] := by
  refine ⟨(Array.getElem?_eq_some_iff.1 h).1, ?_⟩
  intro j hj
  have hj' : j < 2 := hj
  match j, hj' with
  | 0, _ => exact ⟨by rw [cell_of_row _ _ _ _ _ _ h]; rfl, by rw [cell_of_row _ _ _ _ _ _ h]; rfl, by rw [cell_of_row _ _ _ _ _ _ h]; rfl, by rw [cell_of_row _ _ _ _ _ _ h]; rfl⟩
  | 1, _ => exact ⟨by rw [cell_of_row _ _ _ _ _ _ h]; rfl, by rw [cell_of_row _ _ _ _ _ _ h]; rfl, by rw [cell_of_row _ _ _ _ _ _ h]; rfl, by rw [cell_of_row _ _ _ _ _ _ h]; rfl⟩
/-- The four cells of a value. -/
def Four (w : World) (b : Nat) (k n : Int) : Prop := w.cell? ⟨b, 0, none⟩ = some (.int .i64 k) ∧ w.cell? ⟨b, 1, none⟩ = some (.int .i64 n) ∧ w.cell? ⟨b, 2, none⟩ = some (.int .i64 0) ∧ w.cell? ⟨b, 3, none⟩ = some (.string noS)
theorem four_new (w : World) (k n : Int) (W : World) (hW : Below (w.alloc (.cells #[.int .i64 k, .int .i64 n, .int .i64 0, .string noS] 46)).heap.size (w.alloc (.cells #[.int .i64 k, .int .i64 n, .int .i64 0, .string noS] 46)) W) : Four W w.heap.size k n := by
  have h := (hW.block w.heap.size (by simp)).trans (heap_alloc_new w (.cells #[.int .i64 k, .int .i64 n, .int .i64 0, .string noS] 46))
  exact ⟨by rw [cell_of_row _ _ _ _ _ _ h]; rfl, by rw [cell_of_row _ _ _ _ _ _ h]; rfl, by rw [cell_of_row _ _ _ _ _ _ h]; rfl, by rw [cell_of_row _ _ _ _ _ _ h]; rfl⟩
theorem Four.drewN {w : World} {b : Nat} {k n : Int} (h : Four w b k n) : Four w.drew b k n := h

end Go.Proofs.YtfkjfeobhbocjaaGreatDoor
