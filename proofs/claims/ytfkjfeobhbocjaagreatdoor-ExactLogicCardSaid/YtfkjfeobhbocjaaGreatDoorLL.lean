/- The law about truth values: it returns true. -/
import Derived.Test.YtfkjfeobhbocjaaGreatDoorLReg
import Derived.Test.YtfkjfeobhbocjaaGreatDoorWk
import Derived.Outline
namespace Go.Proofs.YtfkjfeobhbocjaaGreatDoor
open Go Go.RowKit Go.Deep Go.Shelf

theorem range127 : List.range 127 = [0, 1, 2, 3, 4, 5, 6, 7, 8, 9, 10, 11, 12, 13, 14, 15, 16, 17, 18, 19, 20, 21, 22, 23, 24, 25, 26, 27, 28, 29, 30, 31, 32, 33, 34, 35, 36, 37, 38, 39, 40, 41, 42, 43, 44, 45, 46, 47, 48, 49, 50, 51, 52, 53, 54, 55, 56, 57, 58, 59, 60, 61, 62, 63, 64, 65, 66, 67, 68, 69, 70, 71, 72, 73, 74, 75, 76, 77, 78, 79, 80, 81, 82, 83, 84, 85, 86, 87, 88, 89, 90, 91, 92, 93, 94, 95, 96, 97, 98, 99, 100, 101, 102, 103, 104, 105, 106, 107, 108, 109, 110, 111, 112, 113, 114, 115, 116, 117, 118, 119, 120, 121, 122, 123, 124, 125, 126] := by decide
theorem lit127 (f : Nat → Value) : ((List.range 127).map f).toArray = #[f 0, f 1, f 2, f 3, f 4, f 5, f 6, f 7, f 8, f 9, f 10, f 11, f 12, f 13, f 14, f 15, f 16, f 17, f 18, f 19, f 20, f 21, f 22, f 23, f 24, f 25, f 26, f 27, f 28, f 29, f 30, f 31, f 32, f 33, f 34, f 35, f 36, f 37, f 38, f 39, f 40, f 41, f 42, f 43, f 44, f 45, f 46, f 47, f 48, f 49, f 50, f 51, f 52, f 53, f 54, f 55, f 56, f 57, f 58, f 59, f 60, f 61, f 62, f 63, f 64, f 65, f 66, f 67, f 68, f 69, f 70, f 71, f 72, f 73, f 74, f 75, f 76, f 77, f 78, f 79, f 80, f 81, f 82, f 83, f 84, f 85, f 86, f 87, f 88, f 89, f 90, f 91, f 92, f 93, f 94, f 95, f 96, f 97, f 98, f 99, f 100, f 101, f 102, f 103, f 104, f 105, f 106, f 107, f 108, f 109, f 110, f 111, f 112, f 113, f 114, f 115, f 116, f 117, f 118, f 119, f 120, f 121, f 122, f 123, f 124, f 125, f 126] := by rw [range127]; rfl
theorem act_lit (a : Act) (h : a.tmps.size = 127) (hd : a.defers = []) : ∃ f : Nat → Value, (∀ t, a.tmps[t]?.getD undef = f t) ∧ a = ⟨#[f 0, f 1, f 2, f 3, f 4, f 5, f 6, f 7, f 8, f 9, f 10, f 11, f 12, f 13, f 14, f 15, f 16, f 17, f 18, f 19, f 20, f 21, f 22, f 23, f 24, f 25, f 26, f 27, f 28, f 29, f 30, f 31, f 32, f 33, f 34, f 35, f 36, f 37, f 38, f 39, f 40, f 41, f 42, f 43, f 44, f 45, f 46, f 47, f 48, f 49, f 50, f 51, f 52, f 53, f 54, f 55, f 56, f 57, f 58, f 59, f 60, f 61, f 62, f 63, f 64, f 65, f 66, f 67, f 68, f 69, f 70, f 71, f 72, f 73, f 74, f 75, f 76, f 77, f 78, f 79, f 80, f 81, f 82, f 83, f 84, f 85, f 86, f 87, f 88, f 89, f 90, f 91, f 92, f 93, f 94, f 95, f 96, f 97, f 98, f 99, f 100, f 101, f 102, f 103, f 104, f 105, f 106, f 107, f 108, f 109, f 110, f 111, f 112, f 113, f 114, f 115, f 116, f 117, f 118, f 119, f 120, f 121, f 122, f 123, f 124, f 125, f 126], []⟩ := by
  refine ⟨fun t => a.tmps[t]?.getD undef, fun t => rfl, ?_⟩
  obtain ⟨tm, df⟩ := a
  have h' : tm.size = 127 := h
  have hd' : df = [] := hd
  subst hd'
  have e : tm = ((List.range 127).map fun t => tm[t]?.getD undef).toArray := by
    apply Array.ext
    · simpa using h'
    · intro i h1 h2
      simp [h1]
  exact (congrArg (fun x => (⟨x, []⟩ : Act)) (e.trans (lit127 _)))

set_option maxRecDepth 100000 in
set_option maxHeartbeats 8000000 in
theorem l_logic (x y : Tri) (w : World) (m : Int) (hm : w.cell? ⟨3, 0, none⟩ = some (.int .i64 m)) :
    Calls Tryz.prog 5 #[.int .u8 x.n, .int .u8 y.n] w fun e w' => e = .returned (.bool true) ∧ Below w.heap.size w w' := by
  have h0 : 3 < w.heap.size := by
    by_cases h : 3 < w.heap.size
    · exact h
    · exfalso
      have : w.heap[3]? = none := Array.getElem?_eq_none (by omega)
      simp [World.cell?, this] at hm
  have HK := Lib.hid (fun W (hW : Below w.heap.size w W) => c_works W m ((hW.cell (p := ⟨3, 0, none⟩) h0).trans hm))
  clear hm h0
  have HVx := Lib.hid (fun W => c_lval x W)
  have HVy := Lib.hid (fun W => c_lval y W)
  go_enter Tryz.func5, Tryz.ntmps5
  go_wp2_with fail
  refine (HVx.out _).mono ?_
  rintro e w1 ⟨rfl, hb1⟩
  go_wp2_with fail
  refine (HVy.out _).mono ?_
  rintro e w2 ⟨rfl, hb2⟩
  have C2 : Below w.heap.size w w2 := btr hb1 hb2
  clear hb1 hb2 HVx HVy
  go_wp2_with fail
  have r7 : ValRow ((w2.alloc (.cells #[.int .i64 x.k, .int .i64 x.n, .int .i64 0, .string noS] 46)).alloc (.cells #[.int .i64 y.k, .int .i64 y.n, .int .i64 0, .string noS] 46)) w2.heap.size x.k x.n := (Below.heap_alloc _ _ _ (by simp)).trans (heap_alloc_new w2 _)
  have r8' : ValRow ((w2.alloc (.cells #[.int .i64 x.k, .int .i64 x.n, .int .i64 0, .string noS] 46)).alloc (.cells #[.int .i64 y.k, .int .i64 y.n, .int .i64 0, .string noS] 46)) (w2.heap.size + 1) y.k y.n := by
    have := heap_alloc_new (w2.alloc (.cells #[.int .i64 x.k, .int .i64 x.n, .int .i64 0, .string noS] 46)) (.cells #[.int .i64 y.k, .int .i64 y.n, .int .i64 0, .string noS] 46)
    rwa [World.size_alloc] at this
  have C3 : Below w.heap.size w ((w2.alloc (.cells #[.int .i64 x.k, .int .i64 x.n, .int .i64 0, .string noS] 46)).alloc (.cells #[.int .i64 y.k, .int .i64 y.n, .int .i64 0, .string noS] 46)) := (C2.alloc C2.size _).alloc (by have := C2.size; simp; omega) _
  generalize (w2.alloc (.cells #[.int .i64 x.k, .int .i64 x.n, .int .i64 0, .string noS] 46)).alloc (.cells #[.int .i64 y.k, .int .i64 y.n, .int .i64 0, .string noS] 46) = W0 at *
  rename_i K hK
  refine r4 x y w2.heap.size (w2.heap.size + 1) rfl rfl (by kernel_rfl) (dag_of (by kernel_rfl))
    rfl rfl rfl
    rfl rfl rfl
    rfl rfl rfl
    rfl rfl rfl (by kernel_rfl) (by kernel_rfl)
    rfl rfl rfl (by kernel_rfl) (by kernel_rfl)
    rfl rfl rfl
    rfl rfl rfl
    rfl rfl rfl
    rfl rfl rfl (by kernel_rfl) (by kernel_rfl)
    rfl rfl rfl (by kernel_rfl) (by kernel_rfl)
    rfl rfl rfl
    rfl rfl rfl
    rfl rfl rfl
    rfl rfl rfl
    rfl rfl rfl (fun W hW => ⟨four_row (r7.below hW), four_row (r8'.below hW)⟩) (by kernel_rfl) (by kernel_rfl) (by kernel_rfl) (by kernel_rfl) (by kernel_rfl) ?_

  intro a wA b9 b10 hn hdef BA p9 p10 z9 z10 old
  refine hK a wA ?_
  have s0 : a.tmps[0]?.getD undef = .int .u8 x.n := old 0 (by decide)
  have s1 : a.tmps[1]?.getD undef = .int .u8 y.n := old 1 (by decide)
  have s6 : a.tmps[6]?.getD undef = .func (.func 25) #[] #[] := old 6 (by decide)
  have s7 : a.tmps[7]?.getD undef = .pointer (some ⟨w2.heap.size, 0, none⟩) := old 7 (by decide)
  have s8 : a.tmps[8]?.getD undef = .pointer (some ⟨w2.heap.size + 1, 0, none⟩) := old 8 (by decide)
  have CA : Below w.heap.size w wA := btr C3 BA
  have q7 := r7.below BA
  have q8 := r8'.below BA
  clear old BA r7 r8' C3 hK C2
  obtain ⟨tm, df⟩ := a
  dsimp only at s0 s1 s6 s7 s8 p9 p10 hn hdef
  go_wp2_with fail
  rename_i K1 hK1 K2 hK2
  refine r5 x y w2.heap.size (w2.heap.size + 1) b9 b10 rfl hn (by kernel_rfl) (dag_of (by kernel_rfl))
    rfl rfl rfl
    rfl rfl rfl
    rfl rfl rfl (by kernel_rfl)
    rfl rfl rfl (by kernel_rfl) (by kernel_rfl)
    rfl rfl rfl
    rfl rfl rfl
    rfl rfl rfl
    rfl rfl rfl (by kernel_rfl)
    rfl rfl rfl (by kernel_rfl) (by kernel_rfl)
    rfl rfl rfl
    rfl rfl rfl
    rfl rfl rfl (by kernel_rfl)
    rfl rfl rfl (by kernel_rfl) (by kernel_rfl)
    rfl rfl rfl (by kernel_rfl) (by kernel_rfl)
    rfl rfl rfl (by kernel_rfl) (by kernel_rfl)
    rfl rfl rfl (by kernel_rfl) (by kernel_rfl)
    rfl rfl rfl (by kernel_rfl)
    rfl rfl rfl (by kernel_rfl)
    rfl rfl rfl (by kernel_rfl)
    rfl rfl rfl (by kernel_rfl) (by kernel_rfl)
    rfl rfl rfl (by kernel_rfl) (by kernel_rfl) (by kernel_rfl)
    rfl rfl rfl (by kernel_rfl)
    rfl rfl rfl (by kernel_rfl)
    rfl rfl rfl (by kernel_rfl)
    rfl rfl rfl (by kernel_rfl) (by kernel_rfl)
    rfl rfl rfl (by kernel_rfl) (by kernel_rfl) (by kernel_rfl)
    rfl rfl rfl (by kernel_rfl)
    rfl rfl rfl (by kernel_rfl)
    rfl rfl rfl (by kernel_rfl) (by kernel_rfl)
    rfl rfl rfl (by kernel_rfl) (by kernel_rfl) (by kernel_rfl)
    rfl rfl rfl (by kernel_rfl) (by kernel_rfl) (by kernel_rfl)
    rfl rfl rfl (by kernel_rfl) (by kernel_rfl) (by kernel_rfl)
    rfl rfl rfl (by kernel_rfl) (by kernel_rfl) (by kernel_rfl)
    rfl rfl rfl (by kernel_rfl) (by kernel_rfl)
    rfl rfl rfl (by kernel_rfl)
    rfl rfl rfl (by kernel_rfl)
    rfl rfl rfl (by kernel_rfl)
    rfl rfl rfl (by kernel_rfl)
    rfl rfl rfl (by kernel_rfl) (by kernel_rfl)
    rfl rfl rfl (by kernel_rfl) (by kernel_rfl) (by kernel_rfl)
    rfl rfl rfl (by kernel_rfl) (by kernel_rfl)
    rfl rfl rfl (by kernel_rfl) (by kernel_rfl) (by kernel_rfl)
    rfl rfl rfl (by kernel_rfl)
    rfl rfl rfl (by kernel_rfl) (by kernel_rfl) (by kernel_rfl)
    rfl rfl rfl (by kernel_rfl) (by kernel_rfl)
    s6 s7 s8 p9 p10 (fun W hW => ⟨four_row (q7.below hW), four_row (q8.below hW), four_row (z9.below hW), four_row (z10.below hW)⟩)  ?_

  intro a wB hnB hdB BB t71 old
  refine hK2 a wB ?_
  have t0 : a.tmps[0]?.getD undef = .int .u8 x.n := (old 0 (by decide)).trans s0
  have t1 : a.tmps[1]?.getD undef = .int .u8 y.n := (old 1 (by decide)).trans s1
  have t7 : a.tmps[7]?.getD undef = .pointer (some ⟨w2.heap.size, 0, none⟩) := (old 7 (by decide)).trans s7
  have t8 : a.tmps[8]?.getD undef = .pointer (some ⟨w2.heap.size + 1, 0, none⟩) := (old 8 (by decide)).trans s8
  have t9 : a.tmps[9]?.getD undef = .pointer (some ⟨b9, 0, none⟩) := (old 9 (by decide)).trans p9
  have t10 : a.tmps[10]?.getD undef = .pointer (some ⟨b10, 0, none⟩) := (old 10 (by decide)).trans p10
  have CB := btr CA BB
  have y7 := q7.below BB
  have y8 := q8.below BB
  have y9 := z9.below BB
  have y10 := z10.below BB
  have hdf : a.defers = [] := hdB.trans hdef
  clear old BB q7 q8 z9 z10 CA hK2 s0 s1 s6 s7 s8 p9 p10 hdB hdef hn
  clear tm df
  have t71' : a.tmps[71]?.getD undef = .bool false := t71
  obtain ⟨f, hf, ha⟩ := act_lit a hnB hdf
  rw [hf] at t0 t1 t7 t8 t9 t10 t71'
  clear hf hnB hdf t71
  subst ha
  rw [t0, t1, t7, t8, t9, t10, t71']
  clear t0 t1 t7 t8 t9 t10 t71'
  refine wp_cond_false rfl ?_
  refine wp_skip ?_
  refine hK1 _ _ ?_
  clear hK1
  cases x with
  | F =>
    cases y with
    | F =>
      simp only [Tri.n, Tri.k, Tri.and, Tri.or] at y7 y8 y9 y10 ⊢
      go_wp2_with fail
      rename_i K3 hK3 K4 hK4
      refine r8 b9 rfl rfl (by kernel_rfl) (dag_of (by kernel_rfl))
        rfl rfl rfl
        rfl rfl rfl
        rfl rfl rfl (by kernel_rfl) (by kernel_rfl)
        rfl rfl rfl (by kernel_rfl)
        rfl rfl rfl (by kernel_rfl)
        rfl rfl rfl (by kernel_rfl) (by kernel_rfl)
        rfl rfl rfl (by kernel_rfl)
        rfl (fun W hW => four_row (y9.below hW)) (fun W hW => HK.out W (btr CB hW)) ?_
      intro a w5 hn5 hd5 B5 v4
      refine hK4 a w5 ?_
      clear hK3 hK4
      have v4' : a.tmps[4]?.getD undef = .bool true := v4
      obtain ⟨g, hg, ha⟩ := act_lit a hn5 hd5
      rw [hg] at v4'
      subst ha
      rw [v4']
      have C5 := btr CB B5
      clear hg hn5 hd5 v4 B5
      go_wp2
      go_ret
      exact ⟨rfl, C5⟩
    | T =>
      simp only [Tri.n, Tri.k, Tri.and, Tri.or] at y7 y8 y9 y10 ⊢
      go_wp2_with fail
      rename_i K3 hK3 K4 hK4
      refine r8 b9 rfl rfl (by kernel_rfl) (dag_of (by kernel_rfl))
        rfl rfl rfl
        rfl rfl rfl
        rfl rfl rfl (by kernel_rfl) (by kernel_rfl)
        rfl rfl rfl (by kernel_rfl)
        rfl rfl rfl (by kernel_rfl)
        rfl rfl rfl (by kernel_rfl) (by kernel_rfl)
        rfl rfl rfl (by kernel_rfl)
        rfl (fun W hW => four_row (y9.below hW)) (fun W hW => HK.out W (btr CB hW)) ?_
      intro a w5 hn5 hd5 B5 v4
      refine hK4 a w5 ?_
      clear hK3 hK4
      have v4' : a.tmps[4]?.getD undef = .bool true := v4
      obtain ⟨g, hg, ha⟩ := act_lit a hn5 hd5
      rw [hg] at v4'
      subst ha
      rw [v4']
      have C5 := btr CB B5
      clear hg hn5 hd5 v4 B5
      go_wp2
      go_ret
      exact ⟨rfl, C5⟩
    | M n' h' =>
      simp only [Tri.n, Tri.k, Tri.and, Tri.or] at y7 y8 y9 y10 ⊢
      have p0 : ¬ n' = 0 := by have := h'; omega
      have p1 : ¬ n' = 1 := by have := h'; omega
      have p2 : 1 < n' := by have := h'; omega
      go_wp2_with fail
      rename_i K3 hK3 K4 hK4
      refine r8 b9 rfl rfl (by kernel_rfl) (dag_of (by kernel_rfl))
        rfl rfl rfl
        rfl rfl rfl
        rfl rfl rfl (by kernel_rfl) (by kernel_rfl)
        rfl rfl rfl (by kernel_rfl)
        rfl rfl rfl (by kernel_rfl)
        rfl rfl rfl (by kernel_rfl) (by kernel_rfl)
        rfl rfl rfl (by kernel_rfl)
        rfl (fun W hW => four_row (y9.below hW)) (fun W hW => HK.out W (btr CB hW)) ?_
      intro a w5 hn5 hd5 B5 v4
      refine hK4 a w5 ?_
      clear hK3 hK4
      have v4' : a.tmps[4]?.getD undef = .bool true := v4
      obtain ⟨g, hg, ha⟩ := act_lit a hn5 hd5
      rw [hg] at v4'
      subst ha
      rw [v4']
      have C5 := btr CB B5
      clear hg hn5 hd5 v4 B5
      go_wp2
      go_ret
      exact ⟨rfl, C5⟩
  | T =>
    cases y with
    | F =>
      simp only [Tri.n, Tri.k, Tri.and, Tri.or] at y7 y8 y9 y10 ⊢
      go_wp2_with fail
      rename_i K3 hK3 K4 hK4
      refine r8 b9 rfl rfl (by kernel_rfl) (dag_of (by kernel_rfl))
        rfl rfl rfl
        rfl rfl rfl
        rfl rfl rfl (by kernel_rfl) (by kernel_rfl)
        rfl rfl rfl (by kernel_rfl)
        rfl rfl rfl (by kernel_rfl)
        rfl rfl rfl (by kernel_rfl) (by kernel_rfl)
        rfl rfl rfl (by kernel_rfl)
        rfl (fun W hW => four_row (y9.below hW)) (fun W hW => HK.out W (btr CB hW)) ?_
      intro a w5 hn5 hd5 B5 v4
      refine hK4 a w5 ?_
      clear hK3 hK4
      have v4' : a.tmps[4]?.getD undef = .bool true := v4
      obtain ⟨g, hg, ha⟩ := act_lit a hn5 hd5
      rw [hg] at v4'
      subst ha
      rw [v4']
      have C5 := btr CB B5
      clear hg hn5 hd5 v4 B5
      go_wp2
      go_ret
      exact ⟨rfl, C5⟩
    | T =>
      simp only [Tri.n, Tri.k, Tri.and, Tri.or] at y7 y8 y9 y10 ⊢
      go_wp2_with fail
      rename_i K3 hK3 K4 hK4
      refine r10 b9 b10 rfl rfl (by kernel_rfl) (dag_of (by kernel_rfl))
        rfl rfl rfl
        rfl rfl rfl
        rfl rfl rfl (by kernel_rfl) (by kernel_rfl)
        rfl rfl rfl (by kernel_rfl)
        rfl rfl rfl (by kernel_rfl)
        rfl rfl rfl (by kernel_rfl)
        rfl rfl rfl (by kernel_rfl) (by kernel_rfl) (by kernel_rfl)
        rfl rfl rfl (by kernel_rfl) (by kernel_rfl)
        rfl rfl rfl (by kernel_rfl)
        rfl rfl rfl (by kernel_rfl)
        rfl rfl rfl (by kernel_rfl) (by kernel_rfl)
        rfl rfl rfl (by kernel_rfl)
        rfl rfl (fun W hW => ⟨four_row (y9.below hW), four_row (y10.below hW)⟩) (fun W hW => HK.out W (btr CB hW)) ?_
      intro a w5 hn5 hd5 B5 v4
      refine hK4 a w5 ?_
      clear hK3 hK4
      have v4' : a.tmps[4]?.getD undef = .bool true := v4
      obtain ⟨g, hg, ha⟩ := act_lit a hn5 hd5
      rw [hg] at v4'
      subst ha
      rw [v4']
      have C5 := btr CB B5
      clear hg hn5 hd5 v4 B5
      go_wp2
      go_ret
      exact ⟨rfl, C5⟩
    | M n' h' =>
      simp only [Tri.n, Tri.k, Tri.and, Tri.or] at y7 y8 y9 y10 ⊢
      have p0 : ¬ n' = 0 := by have := h'; omega
      have p1 : ¬ n' = 1 := by have := h'; omega
      have p2 : 1 < n' := by have := h'; omega
      have Y8 := four_row y8
      obtain ⟨c80, c81, c82, c83⟩ := Y8
      have Y9 := four_row y9
      obtain ⟨c90, c91, c92, c93⟩ := Y9
      clear y7 y8 y9 y10
      go_wp2_with fail
      refine (HK.out _ CB).mono ?_
      rintro e w5 ⟨rfl, hb5⟩
      have C5 := btr CB hb5
      go_wp2
      go_ret
      exact ⟨rfl, C5⟩
  | M n h =>
    cases y with
    | F =>
      simp only [Tri.n, Tri.k, Tri.and, Tri.or] at y7 y8 y9 y10 ⊢
      have n0 : ¬ n = 0 := by have := h; omega
      have n1 : ¬ n = 1 := by have := h; omega
      have n2 : 1 < n := by have := h; omega
      go_wp2_with fail
      rename_i K3 hK3 K4 hK4
      refine r8 b9 rfl rfl (by kernel_rfl) (dag_of (by kernel_rfl))
        rfl rfl rfl
        rfl rfl rfl
        rfl rfl rfl (by kernel_rfl) (by kernel_rfl)
        rfl rfl rfl (by kernel_rfl)
        rfl rfl rfl (by kernel_rfl)
        rfl rfl rfl (by kernel_rfl) (by kernel_rfl)
        rfl rfl rfl (by kernel_rfl)
        rfl (fun W hW => four_row (y9.below hW)) (fun W hW => HK.out W (btr CB hW)) ?_
      intro a w5 hn5 hd5 B5 v4
      refine hK4 a w5 ?_
      clear hK3 hK4
      have v4' : a.tmps[4]?.getD undef = .bool true := v4
      obtain ⟨g, hg, ha⟩ := act_lit a hn5 hd5
      rw [hg] at v4'
      subst ha
      rw [v4']
      have C5 := btr CB B5
      clear hg hn5 hd5 v4 B5
      go_wp2
      go_ret
      exact ⟨rfl, C5⟩
    | T =>
      simp only [Tri.n, Tri.k, Tri.and, Tri.or] at y7 y8 y9 y10 ⊢
      have n0 : ¬ n = 0 := by have := h; omega
      have n1 : ¬ n = 1 := by have := h; omega
      have n2 : 1 < n := by have := h; omega
      have Y7 := four_row y7
      obtain ⟨c70, c71, c72, c73⟩ := Y7
      have Y9 := four_row y9
      obtain ⟨c90, c91, c92, c93⟩ := Y9
      clear y7 y8 y9 y10
      go_wp2_with fail
      refine (HK.out _ CB).mono ?_
      rintro e w5 ⟨rfl, hb5⟩
      have C5 := btr CB hb5
      go_wp2
      go_ret
      exact ⟨rfl, C5⟩
    | M n' h' =>
      simp only [Tri.n, Tri.k, Tri.and, Tri.or] at y7 y8 y9 y10 ⊢
      have n0 : ¬ n = 0 := by have := h; omega
      have n1 : ¬ n = 1 := by have := h; omega
      have n2 : 1 < n := by have := h; omega
      have p0 : ¬ n' = 0 := by have := h'; omega
      have p1 : ¬ n' = 1 := by have := h'; omega
      have p2 : 1 < n' := by have := h'; omega
      have n3 : (n == 0) = false := by simpa using n0
      have p3 : (n' == 0) = false := by simpa using p0
      have Y7 := four_row y7
      obtain ⟨c70, c71, c72, c73⟩ := Y7
      have Y9 := four_row y9
      obtain ⟨c90, c91, c92, c93⟩ := Y9
      have Y10 := four_row y10
      obtain ⟨c100, c101, c102, c103⟩ := Y10
      clear y7 y8 y9 y10
      go_wp2_with fail
      refine (HK.out _ CB).mono ?_
      rintro e w5 ⟨rfl, hb5⟩
      have C5 := btr CB hb5
      go_wp2
      go_ret
      exact ⟨rfl, C5⟩
theorem tri_of (a : Int) (h0 : 0 ≤ a) (h1 : a ≤ 255) : ∃ x : Tri, x.n = a := by
  by_cases e : a = 0
  · exact ⟨.F, e.symm⟩
  · by_cases e1 : a = 1
    · exact ⟨.T, e1.symm⟩
    · exact ⟨.M a ⟨by omega, h1⟩, rfl⟩
theorem l_logic_all (w : World) (a b m : Int) (ha0 : 0 ≤ a) (ha1 : a ≤ 255) (hb0 : 0 ≤ b) (hb1 : b ≤ 255) (hm : w.cell? ⟨3, 0, none⟩ = some (.int .i64 m)) :
    Calls Tryz.prog 5 #[.int .u8 a, .int .u8 b] w fun e w' => e = .returned (.bool true) ∧ Below w.heap.size w w' := by
  obtain ⟨x, rfl⟩ := tri_of a ha0 ha1
  obtain ⟨y, rfl⟩ := tri_of b hb0 hb1
  exact l_logic x y w m hm
end Go.Proofs.YtfkjfeobhbocjaaGreatDoor
