/- The law about types of results: it returns true. -/
import Derived.Test.YtfkjfeobhbocjaaGreatDoorRT2
import Derived.Test.YtfkjfeobhbocjaaGreatDoorWk
namespace Go.Proofs.YtfkjfeobhbocjaaGreatDoor
open Go.RowKit Go.Deep

/-- What both say. -/
theorem both (w : World) (op : Int) (A : Option Addr) (n cap : Nat) (ts : Nat → Int) (h : Ints w A n ts) : ∃ x y : Int,
    (∀ W, Below w.heap.size w W → Calls Tryz.prog 7 #[.int .i64 op, .slice A n cap] W fun e w' => e = .returned (.tuple #[.int .i64 x, .int .i64 y]) ∧ Below W.heap.size W w') ∧
    (∀ W, Below w.heap.size w W → Calls Tryz.prog 8 #[.int .i64 op, .slice A n cap] W fun e w' => e = .returned (.tuple #[.int .i64 x, .int .i64 y]) ∧ Below W.heap.size W w') := by
  by_cases hn : opn op = 0 ∨ opn op ≠ n
  · exact ⟨0, 2, fun W _ => t_none W op A n cap hn, fun W _ => (rt_none W op A n cap hn).mono fun e w' ⟨h1, m, h2⟩ => ⟨h1, by rw [h2]; exact Below.drewN_ (Below.refl _ _) m⟩⟩
  · have h1 : opn op = n := by omega
    have h2 : n ≠ 0 := by omega
    by_cases ha : allTy n ts
    · have hag := agree op ts n h1 h2 ha
      by_cases hr : refT op ts = 0
      · have hd : docT (refT op ts) = .tuple #[.int .i64 0, .int .i64 12] := by rw [docT, if_pos hr]
        exact ⟨0, 12, fun W hW => (c_Type W op A n cap ts (h.below hW) h1 h2).mono fun e w' ⟨⟨h3, _⟩, h4⟩ => ⟨by rw [h3 ha, hag, hd], h4⟩,
          fun W hW => (rt_Type W op A n cap ts (h.below hW) h1 h2).mono fun e w' ⟨⟨h3, _⟩, m, h4⟩ => ⟨by rw [h3 ha, hd], by rw [h4]; exact Below.drewN_ (Below.refl _ _) m⟩⟩
      · have hd : docT (refT op ts) = .tuple #[.int .i64 (refT op ts), .int .i64 0] := by rw [docT, if_neg hr]
        exact ⟨refT op ts, 0, fun W hW => (c_Type W op A n cap ts (h.below hW) h1 h2).mono fun e w' ⟨⟨h3, _⟩, h4⟩ => ⟨by rw [h3 ha, hag, hd], h4⟩,
          fun W hW => (rt_Type W op A n cap ts (h.below hW) h1 h2).mono fun e w' ⟨⟨h3, _⟩, m, h4⟩ => ⟨by rw [h3 ha, hd], by rw [h4]; exact Below.drewN_ (Below.refl _ _) m⟩⟩
    · exact ⟨0, 2, fun W hW => (c_Type W op A n cap ts (h.below hW) h1 h2).mono fun e w' ⟨⟨_, h3⟩, h4⟩ => ⟨h3 ha, h4⟩,
        fun W hW => (rt_Type W op A n cap ts (h.below hW) h1 h2).mono fun e w' ⟨⟨_, h3⟩, m, h4⟩ => ⟨h3 ha, by rw [h4]; exact Below.drewN_ (Below.refl _ _) m⟩⟩

set_option maxRecDepth 100000 in
set_option maxHeartbeats 2000000 in
theorem l_types (w : World) (op : Int) (A : Option Addr) (n cap : Nat) (ts : Nat → Int) (m : Int) (h : Ints w A n ts) (hm : w.cell? ⟨3, 0, none⟩ = some (.int .i64 m)) :
    Calls Tryz.prog 3 #[.int .i64 op, .slice A n cap] w fun e w' => e = .returned (.bool true) ∧ Below w.heap.size w w' := by
  have h0 : 3 < w.heap.size := by
    by_cases h : 3 < w.heap.size
    · exact h
    · exfalso
      have : w.heap[3]? = none := Array.getElem?_eq_none (by omega)
      simp [World.cell?, this] at hm
  have HW := Lib.hid (fun W (hW : Below w.heap.size w W) => c_works W m ((hW.cell (p := ⟨3, 0, none⟩) h0).trans hm))
  obtain ⟨x, y, hx, hy⟩ := both w op A n cap ts h
  have HX := Lib.hid hx
  have HY := Lib.hid hy
  have hxx : (x == x) = true := by simp
  have hyy : (y == y) = true := by simp
  clear h hm h0 hx hy
  by_cases h5 : (5 : Int) < n
  · go_enter Tryz.func3, Tryz.ntmps3
    go_wp2_with fail
    refine (HW.out _ (Below.refl _ _)).mono ?_
    rintro e w' ⟨rfl, hb⟩
    go_wp2
    go_ret
    exact ⟨rfl, hb⟩
  · go_enter Tryz.func3, Tryz.ntmps3
    go_wp2_with fail
    refine (HX.out _ (Below.refl _ _)).mono ?_
    rintro e w1 ⟨rfl, hb1⟩
    go_wp2_with fail
    refine (HY.out _ hb1).mono ?_
    rintro e w2 ⟨rfl, hb2⟩
    have hb2' := btr hb1 hb2
    go_wp2_with fail
    refine (HW.out _ hb2').mono ?_
    rintro e w3 ⟨rfl, hb3⟩
    go_wp2
    go_ret
    exact ⟨rfl, btr hb2' hb3⟩
end Go.Proofs.YtfkjfeobhbocjaaGreatDoor
