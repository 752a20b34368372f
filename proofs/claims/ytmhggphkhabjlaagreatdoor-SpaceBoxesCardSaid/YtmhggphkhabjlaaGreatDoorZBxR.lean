/- The reference's common part of boxes, where there may be one. -/
import Derived.Test.YtmhggphkhabjlaaGreatDoorZAppI
import Derived.Test.YtmhggphkhabjlaaGreatDoorZBxI

/- The reference's common part of boxes, where there may be one. -/
section
namespace Go.Proofs.YtmhggphkhabjlaaGreatDoor
open Go Go.RowKit Go.Deep

theorem box_gen {W : World} {r : Nat} {x y : Value} (h : W.heap[r]? = some (.cells #[x, y] 41 (0, 0))) : W.cell? ⟨r, 0, none⟩ = some x ∧ W.cell? ⟨r, 1, none⟩ = some y ∧ W.frozen? ⟨r, 0, none⟩ = false ∧ W.frozen? ⟨r, 1, none⟩ = false := by
  refine ⟨by simp [World.cell?, h], by simp [World.cell?, h], by simp [World.frozen?, h], by simp [World.frozen?, h]⟩
theorem box_set0 {W : World} {r : Nat} {x y : Value} (h : W.heap[r]? = some (.cells #[x, y] 41 (0, 0))) (v : Value) : (W.setCell ⟨r, 0, none⟩ v).heap[r]? = some (.cells #[v, y] 41 (0, 0)) := by
  simp [World.setCell, Array.getElem?_modify, h]
theorem box_set1 {W : World} {r : Nat} {x y : Value} (h : W.heap[r]? = some (.cells #[x, y] 41 (0, 0))) (v : Value) : (W.setCell ⟨r, 1, none⟩ v).heap[r]? = some (.cells #[x, v] 41 (0, 0)) := by
  simp [World.setCell, Array.getElem?_modify, h]
theorem OwnI.congr {w : World} {B n : Nat} {v : Value} {f g : Nat → Int} (h : OwnI w B v n f) (hfg : ∀ k, k < n → f k = g k) : OwnI w B v n g := by
  obtain ⟨xs, h1, h2⟩ := h
  exact ⟨xs, h1, fun k hk => by rw [← hfg k hk]; exact h2 k hk⟩
theorem OwnI.ints' {w : World} {B n c : Nat} {P : Option Addr} {f : Nat → Int} (h : OwnI w B (.slice P n c) n f) : IntsAt w P n f := by
  obtain ⟨P', c', e, h1⟩ := h.ints
  injection e with e1
  subst e1
  exact h1
theorem OwnI.ne {w : World} {B n b : Nat} {v : Value} {f : Nat → Int} (h : OwnI w B v n f) (hb : b < B) : v.ownBlock = none ∨ v.ownBlock ≠ some b := by
  cases e : v.ownBlock with
  | none => exact .inl rfl
  | some g =>
    have := (h.block e).1
    refine .inr fun e2 => ?_
    injection e2 with e2
    omega
theorem ne_sym {v u : Option Nat} (h : v = none ∨ v ≠ u) : u = none ∨ u ≠ v := by
  cases u with
  | none => exact .inl rfl
  | some a =>
    refine .inr fun e => ?_
    rcases h with h | h
    · rw [h] at e; cases e
    · exact h e.symm
theorem ne_new {w : World} {B n : Nat} {v v' u : Value} {f : Nat → Int} (hu : OwnI w B u n f) (h : v.ownBlock = none ∨ v.ownBlock ≠ u.ownBlock) (hat : v'.ownBlock = v.ownBlock ∨ ∃ g, v'.ownBlock = some g ∧ w.heap.size ≤ g) : v'.ownBlock = none ∨ v'.ownBlock ≠ u.ownBlock := by
  rcases hat with e | ⟨g, e, hg⟩
  · rw [e]; exact h
  · refine .inr fun e2 => ?_
    rw [e] at e2
    have := (hu.block e2.symm).2
    omega
theorem kept_at {w w' : World} {b : Nat} {row : Option Nat} (hg : w.grownBy w' row) (hb : b < w.heap.size) (hne : row = none ∨ row ≠ some b) : w'.heap[b]? = w.heap[b]? :=
  hg.block b hb fun e => by
    rcases hne with h | h
    · rw [h] at e; cases e
    · exact h e.symm
theorem below_own {a w w' : World} {A B n : Nat} {v : Value} {f : Nat → Int} (hb : Below A a w) (hA : A ≤ w.heap.size) (ho : OwnI w B v n f) (hAB : A ≤ B) (hg : w.grownBy w' v.ownBlock) : Below A a w' :=
  hb.grown hg hA fun g e => by have := (ho.block e).1; omega
/-- How it stands in the loop: the box at ob holds two lists of the walk's own. -/
def InSt (w W0 : World) (ob : Nat) (W : World) (x1 x2 : Value) (k1 k2 : Nat) (f g : Nat → Int) : Prop :=
  W.heap[ob]? = some (.cells #[x1, x2] 41 (0, 0)) ∧ OwnI W (ob + 1) x1 k1 f ∧ OwnI W (ob + 1) x2 k2 g ∧ (x1.ownBlock = none ∨ x1.ownBlock ≠ x2.ownBlock) ∧ Below w.heap.size w W ∧ Below (w.heap.size + 3) W0 W
theorem InSt.app1 {w W0 W W' : World} {ob : Nat} {x1 x2 x1' : Value} {k1 k2 : Nat} {f g f' : Nat → Int} (h : InSt w W0 ob W x1 x2 k1 k2 f g) (hz : w.heap.size + 3 ≤ ob) (ho : OwnI W' (ob + 1) x1' (k1 + 1) f') (hg : W.grownBy W' x1.ownBlock) (hat : x1'.ownBlock = x1.ownBlock ∨ ∃ g, x1'.ownBlock = some g ∧ W.heap.size ≤ g) :
    W'.heap[ob]? = some (.cells #[x1, x2] 41 (0, 0)) ∧ InSt w W0 ob (W'.setCell ⟨ob, 0, none⟩ x1') x1' x2 (k1 + 1) k2 f' g := by
  obtain ⟨hbx, HO1, HO2, HNe, HBw, HB0w⟩ := h
  have hobl : ob < W.heap.size := (Array.getElem?_eq_some_iff.1 hbx).1
  have hbx8 := (kept_at hg hobl (HO1.ne (by omega))).trans hbx
  have ho28 := HO2.kept hg (ne_sym HNe)
  have HB8 := below_own HBw HBw.size HO1 (by omega) hg
  have HB08 := below_own HB0w (by omega) HO1 (by omega) hg
  exact ⟨hbx8, box_set0 hbx8 x1', ho.kept (grown_set W' ob 0 x1') (ho.ne (by omega)), ho28.kept (grown_set W' ob 0 x1') (ho28.ne (by omega)), ne_new HO2 HNe hat, HB8.setCell (p := ⟨ob, 0, none⟩) (by show w.heap.size ≤ ob; omega) _, HB08.setCell (p := ⟨ob, 0, none⟩) (by show w.heap.size + 3 ≤ ob; omega) _⟩
theorem InSt.app2 {w W0 W W' : World} {ob : Nat} {x1 x2 x2' : Value} {k1 k2 : Nat} {f g g' : Nat → Int} (h : InSt w W0 ob W x1 x2 k1 k2 f g) (hz : w.heap.size + 3 ≤ ob) (ho : OwnI W' (ob + 1) x2' (k2 + 1) g') (hg : W.grownBy W' x2.ownBlock) (hat : x2'.ownBlock = x2.ownBlock ∨ ∃ g, x2'.ownBlock = some g ∧ W.heap.size ≤ g) :
    W'.heap[ob]? = some (.cells #[x1, x2] 41 (0, 0)) ∧ InSt w W0 ob (W'.setCell ⟨ob, 1, none⟩ x2') x1 x2' k1 (k2 + 1) f g' := by
  obtain ⟨hbx, HO1, HO2, HNe, HBw, HB0w⟩ := h
  have hobl : ob < W.heap.size := (Array.getElem?_eq_some_iff.1 hbx).1
  have hbx8 := (kept_at hg hobl (HO2.ne (by omega))).trans hbx
  have ho18 := HO1.kept hg HNe
  have HB8 := below_own HBw HBw.size HO2 (by omega) hg
  have HB08 := below_own HB0w (by omega) HO2 (by omega) hg
  exact ⟨hbx8, box_set1 hbx8 x2', ho18.kept (grown_set W' ob 1 x2') (ho18.ne (by omega)), ho.kept (grown_set W' ob 1 x2') (ho.ne (by omega)), ne_sym (ne_new HO1 (ne_sym HNe) hat), HB8.setCell (p := ⟨ob, 1, none⟩) (by show w.heap.size ≤ ob; omega) _, HB08.setCell (p := ⟨ob, 1, none⟩) (by show w.heap.size + 3 ≤ ob; omega) _⟩

set_option maxRecDepth 100000 in
set_option maxHeartbeats 4000000 in
theorem r_Inter_ok (w : World) (A1 A2 B1 B2 : Option Addr) (n c d e f : Nat) (al ah bl bh : Nat → Int) (ha1 : IntsAt w A1 n al) (ha2 : IntsAt w A2 n ah) (hb1 : IntsAt w B1 n bl) (hb2 : IntsAt w B2 n bh) (h1n : 1 ≤ n) (hn4 : n ≤ 4) :
    Calls Tryz.prog 24 #[BoxW A1 A2 n c n d, BoxW B1 B2 n e n f] w fun e' w' => ∃ P Q k cc dd, e' = .returned (.tuple #[BoxW P Q k cc k dd, .bool (intTo al ah bl bh n)]) ∧ k = cntB (intTo al ah bl bh n) n ∧ IntsAt w' P k (intLo al bl) ∧ IntsAt w' Q k (intHi ah bh) ∧ Below w.heap.size w w' := by
  obtain ⟨ve, hve⟩ : ∃ ve, intTo al ah bl bh n = ve := ⟨_, rfl⟩
  have HVE := Lib.hid hve
  rw [hve]
  clear hve
  have HT := Lib.hid (three w (.slice A1 n c) (.slice B1 n e) (.slice none 0 0) (.slice A2 n d) (.slice B2 n f) (.slice none 0 0))
  have hz0 : (((w.alloc (.cells #[.slice A1 n c, .slice A2 n d] 41)).alloc (.cells #[.slice B1 n e, .slice B2 n f] 41)).alloc (.cells #[.slice none 0 0, .slice none 0 0] 41)).heap.size = w.heap.size + 3 := by simp
  have HB : Hid (Below w.heap.size w (((w.alloc (.cells #[.slice A1 n c, .slice A2 n d] 41)).alloc (.cells #[.slice B1 n e, .slice B2 n f] 41)).alloc (.cells #[.slice none 0 0, .slice none 0 0] 41))) := (((Below.refl _ _).alloc (Nat.le_refl _) _).alloc (by simp) _).alloc (by simp; omega) _
  have HF1 := Lib.hid (fun W => r_formed W A1 A2 n c n d)
  have HF2 := Lib.hid (fun W => r_formed W B1 B2 n e n f)
  have hff : formB n n = true := by simp [formB, h1n, hn4]
  rw [hff] at HF1 HF2
  have HA1 := Lib.hid ha1
  have HA2 := Lib.hid ha2
  have HBB1 := Lib.hid hb1
  have HBB2 := Lib.hid hb2
  have HBe := Lib.hid r_below
  clear ha1 ha2 hb1 hb2 hff
  go_enter Tryz.func24, Tryz.ntmps24
  obtain ⟨⟨m0, m1⟩, ⟨m2, m3⟩, -⟩ := HT.out (((w.alloc (.cells #[.slice A1 n c, .slice A2 n d] 41)).alloc (.cells #[.slice B1 n e, .slice B2 n f] 41)).alloc (.cells #[.slice none 0 0, .slice none 0 0] 41)) (Below.refl _ _)
  go_wp2_with fail
  clear m0 m1 m2 m3
  generalize ((w.alloc (.cells #[.slice A1 n c, .slice A2 n d] 41)).alloc (.cells #[.slice B1 n e, .slice B2 n f] 41)).alloc (.cells #[.slice none 0 0, .slice none 0 0] 41) = W0 at *
  refine (HF1.out _).mono ?_
  rintro e1 w1 ⟨rfl, hb1⟩
  rw [hz0] at hb1
  have HB1 : Hid (Below (w.heap.size + 3) W0 w1) := hb1
  have HBw1 : Hid (Below w.heap.size w w1) := Below.trans HB.out (hb1.mono (by omega))
  clear hb1
  obtain ⟨⟨m0, m1⟩, ⟨m2, m3⟩, -⟩ := HT.out w1 HB1.out
  go_wp2_with fail
  refine (HF2.out _).mono ?_
  rintro e2 w2 ⟨rfl, hb2⟩
  have HB2 : Hid (Below (w.heap.size + 3) W0 w2) := HB1.out.trans (hb2.mono (by rw [← hz0]; exact HB1.out.size))
  have HBw2 : Hid (Below w.heap.size w w2) := st HBw1.out hb2
  have hz2 : w.heap.size + 3 ≤ w2.heap.size := by rw [← hz0]; exact HB2.out.size
  clear hb2 m0 m1 m2 m3 HF1 HF2 HB1 HBw1
  obtain ⟨⟨m0, m1⟩, ⟨m2, m3⟩, -⟩ := HT.out w2 HB2.out
  have hbx2 : (w2.alloc (.cells #[.slice none 0 0, .slice none 0 0] 41)).heap[w2.heap.size]? = some (.cells #[.slice none 0 0, .slice none 0 0] 41 (0, 0)) := heap_alloc_new _ _
  have HB3 : Hid (Below w.heap.size w (w2.alloc (.cells #[.slice none 0 0, .slice none 0 0] 41))) := HBw2.out.alloc (by omega) _
  have HB03 : Hid (Below (w.heap.size + 3) W0 (w2.alloc (.cells #[.slice none 0 0, .slice none 0 0] 41))) := HB2.out.alloc hz2 _
  have hz3 : (w2.alloc (.cells #[.slice none 0 0, .slice none 0 0] 41)).heap.size = w2.heap.size + 1 := by simp
  go_wp2_with fail
  clear m0 m1 m2 m3
  generalize w2.alloc (.cells #[.slice none 0 0, .slice none 0 0] 41) = w3 at *
  obtain ⟨ob, hob⟩ : ∃ ob, w2.heap.size = ob := ⟨_, rfl⟩
  rw [hob] at hz2 hz3 hbx2 ⊢
  clear hob HB2 HBw2
  go_loopw [7, 8, 9] (fun i _ _ wr => ∃ (k : Nat) (v1 v2 : Value), k ≤ n ∧ i = .int .i64 k ∧ wr.heap[ob]? = some (.cells #[v1, v2] 41 (0, 0)) ∧ Hid (OwnI wr (ob + 1) v1 k (intLo al bl)) ∧ Hid (OwnI wr (ob + 1) v2 k (intHi ah bh)) ∧ Hid (v1.ownBlock = none ∨ v1.ownBlock ≠ v2.ownBlock) ∧ Hid (intTo al ah bl bh k = true) ∧ Hid (Below w.heap.size w wr) ∧ Hid (Below (w.heap.size + 3) W0 wr)) (fun i _ _ _ => n - (intOf i).toNat)
  case atStart => exact ⟨0, _, _, Nat.zero_le _, rfl, hbx2, OwnI.nil _ _ _, OwnI.nil _ _ _, .inl rfl, rfl, HB3.out, HB03.out⟩
  case round =>
    obtain ⟨k, v1, v2, hk, rfl, hbx, HO1, HO2, HNe, HTo, HBw, HB0w⟩ := hrel
    obtain ⟨⟨m0, m1⟩, ⟨m2, m3⟩, hres⟩ := HT.out wr HB0w.out
    by_cases hlt : k < n
    · have HCC : Hid (∀ W, Below w.heap.size w W → ∃ a1 o1 a2 o2 a3 o3 a4 o4, (A1 = some ⟨a1, o1, none⟩ ∧ A2 = some ⟨a2, o2, none⟩ ∧ B1 = some ⟨a3, o3, none⟩ ∧ B2 = some ⟨a4, o4, none⟩) ∧ W.cell? ⟨a1, o1 + k, none⟩ = some (.int .i64 (al k)) ∧ W.cell? ⟨a2, o2 + k, none⟩ = some (.int .i64 (ah k)) ∧ W.cell? ⟨a3, o3 + k, none⟩ = some (.int .i64 (bl k)) ∧ W.cell? ⟨a4, o4 + k, none⟩ = some (.int .i64 (bh k))) := fun W hW => by
        obtain ⟨a1, o1, e1, u1, c1⟩ := HA1.out (by omega)
        obtain ⟨a2, o2, e2, u2, c2⟩ := HA2.out (by omega)
        obtain ⟨a3, o3, e3, u3, c3⟩ := HBB1.out (by omega)
        obtain ⟨a4, o4, e4, u4, c4⟩ := HBB2.out (by omega)
        exact ⟨a1, o1, a2, o2, a3, o3, a4, o4, ⟨e1, e2, e3, e4⟩, (hW.cell (p := ⟨a1, o1 + k, none⟩) u1).trans (c1 k hlt), (hW.cell (p := ⟨a2, o2 + k, none⟩) u2).trans (c2 k hlt), (hW.cell (p := ⟨a3, o3 + k, none⟩) u3).trans (c3 k hlt), (hW.cell (p := ⟨a4, o4 + k, none⟩) u4).trans (c4 k hlt)⟩
      obtain ⟨a1, o1, a2, o2, a3, o3, a4, o4, ⟨rfl, rfl, rfl, rfl⟩, c1, c2, c3, c4⟩ := HCC.out wr HBw.out
      have HE2 : Hid (intHi ah bh k = min (min (ah k) (bh k)) 1073741825) := rfl
      have HTn : Hid (intTo al ah bl bh (k + 1) = belB (intLo al bl k) (intHi ah bh k)) := by show _ = _; rw [intTo, HTo.out, Bool.true_and]
      have e1 : max (al k) (bl k) = intLo al bl k := rfl
      have e2 : (if 1073741825 < if bh k < ah k then bh k else ah k then 1073741825 else if bh k < ah k then bh k else ah k) = intHi ah bh k := by
        have h9 : (if bh k < ah k then bh k else ah k) = min (ah k) (bh k) := by split <;> omega
        rw [HE2.out, h9]
        split <;> omega
      have HE12 := Lib.hid (And.intro e1 e2)
      clear e1 e2
      go_wp2
      go_quiet (fail)
      rw [HE12.out.1]
      have HBq : Hid (Below w.heap.size w (wr.drewN nq)) := drewB HBw.out _
      have HB0q : Hid (Below (w.heap.size + 3) W0 (wr.drewN nq)) := drewB HB0w.out _
      have hbxq : (wr.drewN nq).heap[ob]? = some (.cells #[v1, v2] 41 (0, 0)) := hbx
      have HO1q : Hid (OwnI (wr.drewN nq) (ob + 1) v1 k (intLo al bl)) := HO1.out
      have HO2q : Hid (OwnI (wr.drewN nq) (ob + 1) v2 k (intHi ah bh)) := HO2.out
      clear hbx HO1 HO2 HBw HB0w
      generalize wr.drewN nq = wq at *
      rename Hid (Below w.heap.size w wq) => HBw
      rename Hid (Below (w.heap.size + 3) W0 wq) => HB0w
      rename Hid (OwnI wq (ob + 1) v1 k (intLo al bl)) => HO1
      rename Hid (OwnI wq (ob + 1) v2 k (intHi ah bh)) => HO2
      rename wq.heap[ob]? = some (.cells #[v1, v2] 41 (0, 0)) => hbx
      clear m0 m1 m2 m3 c1 c2 c3 c4
      obtain ⟨⟨m0, m1⟩, ⟨m2, m3⟩, hres⟩ := HT.out wq HB0w.out
      obtain ⟨a1', o1', a2', o2', a3', o3', a4', o4', ⟨e1, e2, e3, e4⟩, -, c2, -, c4⟩ := HCC.out wq HBw.out
      injection e2 with e2
      injection e2 with e2 e2'
      injection e4 with e4
      injection e4 with e4 e4'
      subst e2 e2' e4 e4'
      clear e1 e3
      go_wp2
      go_quiet (fail)
      rw [HE12.out.2]
      have HBq : Hid (Below w.heap.size w (wq.drewN nq)) := drewB HBw.out _
      have HB0q : Hid (Below (w.heap.size + 3) W0 (wq.drewN nq)) := drewB HB0w.out _
      have hbxq : (wq.drewN nq).heap[ob]? = some (.cells #[v1, v2] 41 (0, 0)) := hbx
      have HO1q : Hid (OwnI (wq.drewN nq) (ob + 1) v1 k (intLo al bl)) := HO1.out
      have HO2q : Hid (OwnI (wq.drewN nq) (ob + 1) v2 k (intHi ah bh)) := HO2.out
      clear hbx HO1 HO2 HBw HB0w
      generalize wq.drewN nq = wp at *
      rename Hid (Below w.heap.size w wp) => HBw
      rename Hid (Below (w.heap.size + 3) W0 wp) => HB0w
      rename Hid (OwnI wp (ob + 1) v1 k (intLo al bl)) => HO1
      rename Hid (OwnI wp (ob + 1) v2 k (intHi ah bh)) => HO2
      rename wp.heap[ob]? = some (.cells #[v1, v2] 41 (0, 0)) => hbx
      clear m0 m1 m2 m3 c2 c4 hres HCC HE12 HE2
      have hres := (HT.out wp HB0w.out).2.2
      have HBk := Lib.hid (HBe.out (intLo al bl k) (intHi ah bh k))
      obtain ⟨X, hX⟩ : ∃ X, intLo al bl k = X := ⟨_, rfl⟩
      obtain ⟨Y, hY⟩ : ∃ Y, intHi ah bh k = Y := ⟨_, rfl⟩
      rw [hX, hY] at HBk HTn
      rw [hX, hY]
      have HXY := Lib.hid (And.intro hX hY)
      clear hX hY
      obtain ⟨r0, r9, z0, z1⟩ := box_at hres
      cases hbz : belB X Y
      · rw [hbz] at HBk HTn
        have HR : Hid (intTo al ah bl bh n = false) := intTo_le (k := k + 1) HTn.out (by omega)
        clear hbz
        go_wp2_with fail
        refine (HBk.out _).mono ?_
        rintro e7 w7 ⟨rfl, rfl⟩
        go_wp2
        refine bodyPost_ret (v := .tuple #[BoxW none none 0 0 0 0, .bool false]) (res_cell_tmp Tryz.results24 _ _ (w.heap.size + 2) 41 _ (0, 0) _ rfl (put2 hres _ _) Tryz.underlying41 rfl (by rw [info_box]; rfl)) rfl ?_
        have hve : ve = false := HVE.out.symm.trans HR.out
        subst hve
        exact ⟨none, none, 0, 0, 0, rfl, rfl, fun h9 => absurd h9 (by omega), fun h9 => absurd h9 (by omega), (HBw.out.setCell (p := ⟨w.heap.size + 2, 0, none⟩) (by show w.heap.size ≤ w.heap.size + 2; omega) _).setCell (p := ⟨w.heap.size + 2, 1, none⟩) (by show w.heap.size ≤ w.heap.size + 2; omega) _⟩
      · rw [hbz] at HBk HTn
        clear hbz r0 r9 z0 z1
        obtain ⟨t0, t1, u0, u1⟩ := box_gen hbx
        have hobl : ob < wp.heap.size := (Array.getElem?_eq_some_iff.1 hbx).1
        go_wp2_with fail
        refine (HBk.out _).mono ?_
        rintro e7 w7 ⟨rfl, rfl⟩
        have HST : Hid (InSt w W0 ob w7 v1 v2 k k (intLo al bl) (intHi ah bh)) := ⟨hbx, HO1.out, HO2.out, HNe.out, HBw.out, HB0w.out⟩
        have hk9 : k ≤ 1000000 := by omega
        have hob7 : ob + 1 ≤ w7.heap.size := hobl
        go_wp2_with (first
          | (at_builtin; refine wpList_appI rfl _ _ rfl w7 X (ob + 1) v1 k (intLo al bl) rfl w7.heap.size rfl rfl HO1.out hk9 hob7 ?_; intro v1' w8 ho8 hg8 hat8; obtain ⟨P1, q1, rfl, -⟩ := ho8.ints; obtain ⟨hbx8, hst8⟩ := HST.out.app1 hz2 ho8 hg8 hat8; obtain ⟨t0, t1, u0, u1⟩ := box_gen hbx8; obtain ⟨s0, s1, y0, y1⟩ := box_gen hst8.1; have hob9 : ob + 1 ≤ (w8.setCell ⟨ob, 0, none⟩ (.slice P1 (k + 1) q1)).heap.size := (Array.getElem?_eq_some_iff.1 hst8.1).1; have HST9 := Lib.hid hst8; clear hst8 hbx8 ho8 hg8 hat8)
          | (at_builtin; refine wpList_appI rfl _ _ rfl (w8.setCell ⟨ob, 0, none⟩ (.slice P1 (k + 1) q1)) Y (ob + 1) v2 k (intHi ah bh) rfl w8.heap.size rfl (by simp) HST9.out.2.2.1 hk9 hob9 ?_; intro v2' w10 ho10 hg10 hat10; obtain ⟨P2, q2, rfl, -⟩ := ho10.ints; obtain ⟨hbx10, hst10⟩ := HST9.out.app2 hz2 ho10 hg10 hat10; obtain ⟨t0', t1', u0', u1'⟩ := box_gen hbx10; have HST11 := Lib.hid hst10; clear hst10 hbx10 ho10 hg10 hat10))
        go_roundw
        case rel =>
          refine ⟨k + 1, _, _, by omega, by go_num, HST11.out.1, HST11.out.2.1.congr fun j hj => ?_, HST11.out.2.2.1.congr fun j hj => ?_, HST11.out.2.2.2.1, HTn.out, HST11.out.2.2.2.2.1, HST11.out.2.2.2.2.2⟩
          · unfold updZ
            by_cases e : j = k
            · rw [if_pos e, e, HXY.out.1]
            · rw [if_neg e]
          · unfold updZ
            by_cases e : j = k
            · rw [if_pos e, e, HXY.out.2]
            · rw [if_neg e]
        case measure => simp [intOf]; omega
    · obtain rfl : k = n := by omega
      obtain ⟨r0, r9, z0, z1⟩ := box_at hres
      obtain ⟨t0, t1, u0, u1⟩ := box_gen hbx
      obtain ⟨P1, cc, rfl, hp1⟩ := HO1.out.ints
      obtain ⟨P2, dd, rfl, hp2⟩ := HO2.out.ints
      have hve : ve = true := HVE.out.symm.trans HTo.out
      subst hve
      have HP1 := Lib.hid hp1
      have HP2 := Lib.hid hp2
      have q1 := (HO1.out.kept (grown_set wr (w.heap.size + 2) 0 (.slice P1 k cc)) (HO1.out.ne (by omega)))
      have q2 := (HO2.out.kept (grown_set wr (w.heap.size + 2) 0 (.slice P1 k cc)) (HO2.out.ne (by omega)))
      have Q1 := Lib.hid ((q1.kept (grown_set _ (w.heap.size + 2) 1 (.slice P2 k dd)) (q1.ne (by omega))).ints')
      have Q2 := Lib.hid ((q2.kept (grown_set _ (w.heap.size + 2) 1 (.slice P2 k dd)) (q2.ne (by omega))).ints')
      clear q1 q2
      go_wp2
      refine bodyPost_ret (v := .tuple #[BoxW P1 P2 k cc k dd, .bool true]) (res_cell_tmp Tryz.results24 _ _ (w.heap.size + 2) 41 _ (0, 0) _ rfl (put2 hres _ _) Tryz.underlying41 rfl (by rw [info_box]; rfl)) rfl ?_
      exact ⟨P1, P2, k, cc, dd, rfl, rfl, Q1.out, Q2.out, (HBw.out.setCell (p := ⟨w.heap.size + 2, 0, none⟩) (by show w.heap.size ≤ w.heap.size + 2; omega) _).setCell (p := ⟨w.heap.size + 2, 1, none⟩) (by show w.heap.size ≤ w.heap.size + 2; omega) _⟩
end Go.Proofs.YtmhggphkhabjlaaGreatDoor
end

/- The reference's common part of boxes that have none by their form. -/
section
namespace Go.Proofs.YtmhggphkhabjlaaGreatDoor
open Go Go.RowKit Go.Deep

set_option maxRecDepth 100000 in
set_option maxHeartbeats 4000000 in
theorem r_Inter_bad (w : World) (A1 A2 B1 B2 : Option Addr) (n c m d p e q f : Nat) (hbad : (formB n m && (formB p q && n == p)) = false) :
    Calls Tryz.prog 24 #[BoxW A1 A2 n c m d, BoxW B1 B2 p e q f] w fun e' w' => e' = .returned (.tuple #[BoxW none none 0 0 0 0, .bool false]) ∧ Below w.heap.size w w' := by
  have HT := Lib.hid (three w (.slice A1 n c) (.slice B1 p e) (.slice none 0 0) (.slice A2 m d) (.slice B2 q f) (.slice none 0 0))
  have hz0 : (((w.alloc (.cells #[.slice A1 n c, .slice A2 m d] 41)).alloc (.cells #[.slice B1 p e, .slice B2 q f] 41)).alloc (.cells #[.slice none 0 0, .slice none 0 0] 41)).heap.size = w.heap.size + 3 := by simp
  have HB : Hid (Below w.heap.size w (((w.alloc (.cells #[.slice A1 n c, .slice A2 m d] 41)).alloc (.cells #[.slice B1 p e, .slice B2 q f] 41)).alloc (.cells #[.slice none 0 0, .slice none 0 0] 41))) := (((Below.refl _ _).alloc (Nat.le_refl _) _).alloc (by simp) _).alloc (by simp; omega) _
  have HF1 := Lib.hid (fun W => r_formed W A1 A2 n c m d)
  have HF2 := Lib.hid (fun W => r_formed W B1 B2 p e q f)
  go_enter Tryz.func24, Tryz.ntmps24
  obtain ⟨⟨m0, m1⟩, ⟨m2, m3⟩, -⟩ := HT.out (((w.alloc (.cells #[.slice A1 n c, .slice A2 m d] 41)).alloc (.cells #[.slice B1 p e, .slice B2 q f] 41)).alloc (.cells #[.slice none 0 0, .slice none 0 0] 41)) (Below.refl _ _)
  go_wp2_with fail
  clear m0 m1 m2 m3
  generalize ((w.alloc (.cells #[.slice A1 n c, .slice A2 m d] 41)).alloc (.cells #[.slice B1 p e, .slice B2 q f] 41)).alloc (.cells #[.slice none 0 0, .slice none 0 0] 41) = W0 at *
  refine (HF1.out _).mono ?_
  rintro e1 w1 ⟨rfl, hb1⟩
  rw [hz0] at hb1
  have HB1 : Hid (Below (w.heap.size + 3) W0 w1) := hb1
  have HBw1 : Hid (Below w.heap.size w w1) := Below.trans HB.out (hb1.mono (by omega))
  clear hb1
  obtain ⟨⟨m0, m1⟩, ⟨m2, m3⟩, hres⟩ := HT.out w1 HB1.out
  obtain ⟨r0, r1, z0, z1⟩ := box_at hres
  cases hf1 : formB n m
  · go_wp2
    refine bodyPost_ret (v := .tuple #[BoxW none none 0 0 0 0, .bool false]) (res_cell_tmp Tryz.results24 _ _ (w.heap.size + 2) 41 _ (0, 0) _ rfl (put2 hres _ _) Tryz.underlying41 rfl (by rw [info_box]; rfl)) rfl ?_
    exact ⟨rfl, (HBw1.out.setCell (p := ⟨w.heap.size + 2, 0, none⟩) (by show w.heap.size ≤ w.heap.size + 2; omega) _).setCell (p := ⟨w.heap.size + 2, 1, none⟩) (by show w.heap.size ≤ w.heap.size + 2; omega) _⟩
  · go_wp2_with fail
    refine (HF2.out _).mono ?_
    rintro e2 w2 ⟨rfl, hb2⟩
    have HB2 : Hid (Below (w.heap.size + 3) W0 w2) := HB1.out.trans (hb2.mono (by rw [← hz0]; exact HB1.out.size))
    have HBw2 : Hid (Below w.heap.size w w2) := st HBw1.out hb2
    clear hb2 m0 m1 m2 m3 r0 r1 z0 z1 hres
    obtain ⟨⟨m0, m1⟩, ⟨m2, m3⟩, hres⟩ := HT.out w2 HB2.out
    obtain ⟨r0, r1, z0, z1⟩ := box_at hres
    cases hf2 : formB p q
    · go_wp2
      refine bodyPost_ret (v := .tuple #[BoxW none none 0 0 0 0, .bool false]) (res_cell_tmp Tryz.results24 _ _ (w.heap.size + 2) 41 _ (0, 0) _ rfl (put2 hres _ _) Tryz.underlying41 rfl (by rw [info_box]; rfl)) rfl ?_
      exact ⟨rfl, (HBw2.out.setCell (p := ⟨w.heap.size + 2, 0, none⟩) (by show w.heap.size ≤ w.heap.size + 2; omega) _).setCell (p := ⟨w.heap.size + 2, 1, none⟩) (by show w.heap.size ≤ w.heap.size + 2; omega) _⟩
    · have hnp : n ≠ p := fun h => by rw [hf1, hf2, h, beq_self_eq_true] at hbad; exact absurd hbad (by decide)
      have h5 : ((n : Int) != (p : Int)) = true := by rw [bne_iff_ne]; omega
      clear hnp hbad
      go_wp2
      refine bodyPost_ret (v := .tuple #[BoxW none none 0 0 0 0, .bool false]) (res_cell_tmp Tryz.results24 _ _ (w.heap.size + 2) 41 _ (0, 0) _ rfl (put2 hres _ _) Tryz.underlying41 rfl (by rw [info_box]; rfl)) rfl ?_
      exact ⟨rfl, (HBw2.out.setCell (p := ⟨w.heap.size + 2, 0, none⟩) (by show w.heap.size ≤ w.heap.size + 2; omega) _).setCell (p := ⟨w.heap.size + 2, 1, none⟩) (by show w.heap.size ≤ w.heap.size + 2; omega) _⟩
end Go.Proofs.YtmhggphkhabjlaaGreatDoor
end
