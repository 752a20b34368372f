/- Seq and Rank, whatever the order is. -/
import Derived.Test.YtkckoanphciddaaGreatDoorZKeysT
import Derived.Test.YtkckoanphciddaaGreatDoorZRkT
import Derived.Test.YtkckoanphciddaaGreatDoorZRkM
import Derived.Test.YtkckoanphciddaaGreatDoorZBxA
import Derived.StillTailTactics
import Derived.Test.YtkckoanphciddaaGreatDoorZBldK
import Derived.Maps.AppendAt
import Derived.Test.YtkckoanphciddaaGreatDoorZSpI
import Derived.Test.YtkckoanphciddaaGreatDoorZSpE
import Derived.Test.YtkckoanphciddaaGreatDoorZCmpS

/- Seq and Rank, whatever the order is. -/
section
namespace Go.Proofs.YtkckoanphciddaaGreatDoor
open Go Go.RowKit Go.Deep Go.Shelf

set_option maxRecDepth 100000 in
set_option maxHeartbeats 4000000 in
theorem s_order_bad (w : World) (S O L H : Option Addr) (s sc o oc n c m d : Nat) (ord tile form codec z : Int) (ho : ordB ord tile = false) :
    Calls Tryz.prog 84 #[LayV S s sc O o oc ord tile form codec, BoxW L H n c m d, .int .i64 z] w fun e w' => e = .returned (.int .i64 2) ∧ Below w.heap.size w w' := by
  have HVO : Hid (∀ W, Calls Tryz.prog 71 #[LayV S s sc O o oc ord tile form codec] W fun e w' => e = .returned (.bool false) ∧ Below W.heap.size W w') := fun W => by rw [← ho]; exact s_validOrder S O s sc o oc ord tile form codec W
  have KB := Lib.hid (lay_box w S O s sc o oc ord tile form codec)
  have HB1 : Hid (Below w.heap.size w ((w.alloc (.cells #[.slice S s sc, .slice O o oc, .int .i64 ord, .int .i64 tile, .int .i64 form, .int .i64 codec] 54)).alloc (.cells #[.slice L n c, .slice H m d] 66))) := ((Below.refl _ _).alloc (Nat.le_refl _) _).alloc (by simp) _
  have hz1 : (w.alloc (.cells #[.slice S s sc, .slice O o oc, .int .i64 ord, .int .i64 tile, .int .i64 form, .int .i64 codec] 54)).heap.size = w.heap.size + 1 := by simp
  go_enter Tryz.func84, Tryz.ntmps84
  go_wp2_with fail
  generalize w.alloc (.cells #[.slice S s sc, .slice O o oc, .int .i64 ord, .int .i64 tile, .int .i64 form, .int .i64 codec] 54) = Wa at *
  have HB2 : Hid (Below Wa.heap.size Wa (Wa.alloc (.cells #[.slice L n c, .slice H m d] 66))) := (Below.refl _ _).alloc (Nat.le_refl _) _
  generalize Wa.alloc (.cells #[.slice L n c, .slice H m d] 66) = Wb at *
  obtain ⟨l0, l1, l2, l3, l4, l5⟩ := KB.out Wb HB2.out
  go_wp2_with fail
  refine (HVO.out _).mono ?_
  rintro e w1 ⟨rfl, hb1⟩
  go_wp2
  go_ret
  exact ⟨rfl, st HB1.out hb1⟩
set_option maxRecDepth 100000 in
set_option maxHeartbeats 4000000 in
theorem s_Seq_bad (w : World) (S O L H : Option Addr) (s sc o oc n c m d : Nat) (ord tile form codec : Int) (ho : ordB ord tile = false) :
    Calls Tryz.prog 34 #[LayV S s sc O o oc ord tile form codec, BoxW L H n c m d] w fun e w' => e = .returned (.tuple #[.slice none 0 0, .int .i64 2]) ∧ Below w.heap.size w w' := by
  have HOE : Hid (∀ W, Calls Tryz.prog 84 #[LayV S s sc O o oc ord tile form codec, BoxW L H n c m d, .int .i64 n] W fun e w' => e = .returned (.int .i64 2) ∧ Below W.heap.size W w') := fun W => s_order_bad W S O L H s sc o oc n c m d ord tile form codec n ho
  have KB := Lib.hid (lay_box w S O s sc o oc ord tile form codec)
  have HB1 : Hid (Below w.heap.size w ((w.alloc (.cells #[.slice S s sc, .slice O o oc, .int .i64 ord, .int .i64 tile, .int .i64 form, .int .i64 codec] 54)).alloc (.cells #[.slice L n c, .slice H m d] 66))) := ((Below.refl _ _).alloc (Nat.le_refl _) _).alloc (by simp) _
  have hz1 : (w.alloc (.cells #[.slice S s sc, .slice O o oc, .int .i64 ord, .int .i64 tile, .int .i64 form, .int .i64 codec] 54)).heap.size = w.heap.size + 1 := by simp
  go_enter Tryz.func34, Tryz.ntmps34
  go_wp2_with fail
  generalize w.alloc (.cells #[.slice S s sc, .slice O o oc, .int .i64 ord, .int .i64 tile, .int .i64 form, .int .i64 codec] 54) = Wa at *
  have K2 := Lib.hid (box_two Wa (.slice L n c) (.slice H m d) 66)
  have HB2 : Hid (Below Wa.heap.size Wa (Wa.alloc (.cells #[.slice L n c, .slice H m d] 66))) := (Below.refl _ _).alloc (Nat.le_refl _) _
  rw [hz1] at K2
  generalize Wa.alloc (.cells #[.slice L n c, .slice H m d] 66) = Wb at *
  obtain ⟨l0, l1, l2, l3, l4, l5⟩ := KB.out Wb HB2.out
  obtain ⟨m0, m1⟩ := K2.out Wb (Below.refl _ _)
  go_wp2_with fail
  refine (HOE.out _).mono ?_
  rintro e w1 ⟨rfl, hb1⟩
  go_wp2
  go_ret2
  exact ⟨rfl, st HB1.out hb1⟩

theorem ord_cases {ord tile : Int} (h : ordB ord tile = true) : ord = 1 ∨ ord = 2 ∨ ord = 3 := by
  unfold ordB at h
  split at h
  · omega
  · split at h
    · omega
    · cases h
/-- Seq and Rank, with keys that differ. -/
theorem seq_rank (w : World) (S O L H : Option Addr) (s sc o oc n c d : Nat) (ord tile form codec : Int) (lo hi : Nat → Int) (e : Nat → Nat) (hl : IntsAt w L n lo) (hh : IntsAt w H n hi) (h1 : 1 ≤ n) (h4 : n ≤ 4) (ho : ordB ord tile = true)
    (hb : ∀ k, k < n → -1073741824 ≤ lo k ∧ lo k ≤ hi k ∧ hi k ≤ 1073741824 ∧ hi k - lo k < 4096) (he : ∀ k, k < n → 1 ≤ e k ∧ hi k = lo k + e k - 1) (hv : volC e n 0 ≤ 4096) :
    ∃ ky : Nat → Int, (∀ s t, s < volC e n 0 → t < volC e n 0 → ky s = ky t → s = t) ∧
      (∀ W, Below w.heap.size w W → Calls Tryz.prog 34 #[LayV S s sc O o oc ord tile form codec, BoxW L H n c n d] W fun e' w' => ∃ b, e' = .returned (.tuple #[.slice (some ⟨b, 0, none⟩) (volC e n 0) (volC e n 0), .int .i64 0]) ∧ ListsAt w' (some ⟨b, 0, none⟩) (volC e n 0) (fun _ => n) (fun t k => crdZ lo e n ((pairR ky (volC e n 0))[t]!).2 k) ∧ Below W.heap.size W w') ∧
      (∀ W X xc t0, Below w.heap.size w W → IntsAt W X n (fun k => crdZ lo e n t0 k) → Calls Tryz.prog 36 #[LayV S s sc O o oc ord tile form codec, BoxW L H n c n d, .slice X n xc] W fun e' w' => e' = .returned (.tuple #[.int .i64 (cntTo (fun t => decide (ky t < ky t0)) (volC e n 0) : Nat), .int .i64 0]) ∧ Below W.heap.size W w') := by
  have hv2 : volO lo hi n ≤ 4096 := by rw [volO_all he]; exact hv
  rcases ord_cases ho with rfl | rfl | rfl
  · exact ⟨rmK n lo hi e, rmK_inj he, fun W hW => s_SeqR W S O L H s sc o oc n c d tile form codec lo hi e (hl.below hW) (hh.below hW) h1 h4 ho hb he hv2 hv, fun W X xc t0 hW hx => s_RankR W S O L H X s sc o oc n c d xc tile form codec lo hi e t0 (hl.below hW) (hh.below hW) hx h1 h4 ho hb he hv2 hv⟩
  · have hw12 : wdTo lo hi n ≤ 12 := by
      refine wd_le (by decide) ?_
      intro k hk
      have := hb k hk
      have e9 : (2 : Nat) ^ 12 = 4096 := by decide
      omega
    have hw : wdTo lo hi n ≤ 15 := by omega
    exact ⟨hilK n (wdTo lo hi n) lo e, hilK_inj h1 (fun k hk => ⟨(he k hk).1, (he k hk).2, by have := he k hk; have := hb k hk; omega⟩), fun W hW => s_Seq W S O L H s sc o oc n c d tile form codec lo hi e (hl.below hW) (hh.below hW) h1 h4 ho hb he hv2 hv hw, fun W X xc t0 hW hx => s_RankH W S O L H X s sc o oc n c d xc tile form codec lo hi e t0 (hl.below hW) (hh.below hW) hx h1 h4 ho hb he hv2 hv hw⟩
  · exact ⟨tlK n lo hi tile e, tlK_inj he hv, fun W hW => s_SeqT W S O L H s sc o oc n c d tile form codec lo hi e (hl.below hW) (hh.below hW) h1 h4 ho hb he hv2 hv, fun W X xc t0 hW hx => s_RankT W S O L H X s sc o oc n c d xc tile form codec lo hi e t0 (hl.below hW) (hh.below hW) hx h1 h4 ho hb he hv2 hv⟩
end Go.Proofs.YtkckoanphciddaaGreatDoor
end

/- The common part of boxes. -/
section
namespace Go.Proofs.YtkckoanphciddaaGreatDoor
open Go Go.RowKit Go.Deep

def intLo (al bl : Nat → Int) (k : Nat) : Int := max (al k) (bl k)
def intHi (ah bh : Nat → Int) (k : Nat) : Int := min (min (ah k) (bh k)) 1073741825
/-- Is there a common part along the first k dimensions? -/
def intTo (al ah bl bh : Nat → Int) : Nat → Bool
  | 0 => true
  | k + 1 => intTo al ah bl bh k && belB (intLo al bl k) (intHi ah bh k)
theorem intTo_le {al ah bl bh : Nat → Int} {k n : Nat} (hf : intTo al ah bl bh k = false) (hn : k ≤ n) : intTo al ah bl bh n = false := by
  induction n with
  | zero => obtain rfl : k = 0 := by omega
            exact hf
  | succ n ih =>
    by_cases e : k = n + 1
    · rw [← e]; exact hf
    · rw [intTo, ih (by omega)]; rfl
def intB (n m p q : Nat) (al ah bl bh : Nat → Int) : Bool := formB n m && (formB p q && (n == p && intTo al ah bl bh n))
theorem three (w : World) (x y z : Value) (x' y' z' : Value) (W : World) (h : Below (w.heap.size + 3) (((w.alloc (.cells #[x, x'] 66)).alloc (.cells #[y, y'] 66)).alloc (.cells #[z, z'] 66)) W) :
    (W.cell? ⟨w.heap.size, 0, none⟩ = some x ∧ W.cell? ⟨w.heap.size, 1, none⟩ = some x') ∧ (W.cell? ⟨w.heap.size + 1, 0, none⟩ = some y ∧ W.cell? ⟨w.heap.size + 1, 1, none⟩ = some y') ∧ W.heap[w.heap.size + 2]? = some (.cells #[z, z'] 66 (0, 0)) := by
  obtain ⟨q0, q1, q2, _⟩ := al3 w (.cells #[x, x'] 66) (.cells #[y, y'] 66) (.cells #[z, z'] 66)
  have h0 := (h.block w.heap.size (by omega)).trans q0
  have h1 := (h.block (w.heap.size + 1) (by omega)).trans q1
  have h2 := (h.block (w.heap.size + 2) (by omega)).trans q2
  exact ⟨⟨by rw [cell_of_row _ _ _ _ _ _ h0]; rfl, by rw [cell_of_row _ _ _ _ _ _ h0]; rfl⟩, ⟨by rw [cell_of_row _ _ _ _ _ _ h1]; rfl, by rw [cell_of_row _ _ _ _ _ _ h1]; rfl⟩, h2⟩

set_option maxRecDepth 100000 in
set_option maxHeartbeats 4000000 in
theorem s_Inter_bad (w : World) (A1 A2 B1 B2 : Option Addr) (n c m d p e q f : Nat) (hbad : (formB n m && (formB p q && n == p)) = false) :
    Calls Tryz.prog 44 #[BoxW A1 A2 n c m d, BoxW B1 B2 p e q f] w fun e' w' => e' = .returned (.tuple #[BoxW none none 0 0 0 0, .bool false]) ∧ Below w.heap.size w w' := by
  have HT := Lib.hid (three w (.slice A1 n c) (.slice B1 p e) (.slice none 0 0) (.slice A2 m d) (.slice B2 q f) (.slice none 0 0))
  have hz0 : (((w.alloc (.cells #[.slice A1 n c, .slice A2 m d] 66)).alloc (.cells #[.slice B1 p e, .slice B2 q f] 66)).alloc (.cells #[.slice none 0 0, .slice none 0 0] 66)).heap.size = w.heap.size + 3 := by simp
  have HB : Hid (Below w.heap.size w (((w.alloc (.cells #[.slice A1 n c, .slice A2 m d] 66)).alloc (.cells #[.slice B1 p e, .slice B2 q f] 66)).alloc (.cells #[.slice none 0 0, .slice none 0 0] 66))) := (((Below.refl _ _).alloc (Nat.le_refl _) _).alloc (by simp) _).alloc (by simp; omega) _
  have HF1 := Lib.hid (fun W => s_formed W A1 A2 n c m d)
  have HF2 := Lib.hid (fun W => s_formed W B1 B2 p e q f)
  go_enter Tryz.func44, Tryz.ntmps44
  obtain ⟨⟨m0, m1⟩, ⟨m2, m3⟩, -⟩ := HT.out (((w.alloc (.cells #[.slice A1 n c, .slice A2 m d] 66)).alloc (.cells #[.slice B1 p e, .slice B2 q f] 66)).alloc (.cells #[.slice none 0 0, .slice none 0 0] 66)) (Below.refl _ _)
  go_wp2_with fail
  clear m0 m1 m2 m3
  generalize ((w.alloc (.cells #[.slice A1 n c, .slice A2 m d] 66)).alloc (.cells #[.slice B1 p e, .slice B2 q f] 66)).alloc (.cells #[.slice none 0 0, .slice none 0 0] 66) = W0 at *
  refine (HF1.out _).mono ?_
  rintro e1 w1 ⟨rfl, hb1⟩
  rw [hz0] at hb1
  have HB1 : Hid (Below (w.heap.size + 3) W0 w1) := hb1
  have HBw1 : Hid (Below w.heap.size w w1) := Below.trans HB.out (hb1.mono (by omega))
  clear hb1
  obtain ⟨⟨m0, m1⟩, ⟨m2, m3⟩, hres⟩ := HT.out w1 HB1.out
  obtain ⟨r0, r1, z0, z1⟩ := box_at hres
  cases hf1 : formB n m
  · go_wp2
    refine bodyPost_ret (v := .tuple #[BoxW none none 0 0 0 0, .bool false]) (res_cell_tmp Tryz.results44 _ _ (w.heap.size + 2) 66 _ (0, 0) _ rfl (put2 hres _ _) Tryz.underlying66 rfl (by rw [info_box]; rfl)) rfl ?_
    exact ⟨rfl, (HBw1.out.setCell (p := ⟨w.heap.size + 2, 0, none⟩) (by show w.heap.size ≤ w.heap.size + 2; omega) _).setCell (p := ⟨w.heap.size + 2, 1, none⟩) (by show w.heap.size ≤ w.heap.size + 2; omega) _⟩
  · go_wp2_with fail
    refine (HF2.out _).mono ?_
    rintro e2 w2 ⟨rfl, hb2⟩
    have HB2 : Hid (Below (w.heap.size + 3) W0 w2) := HB1.out.trans (hb2.mono (by rw [← hz0]; exact HB1.out.size))
    have HBw2 : Hid (Below w.heap.size w w2) := st HBw1.out hb2
    clear hb2 m0 m1 m2 m3 r0 r1 z0 z1 hres
    obtain ⟨⟨m0, m1⟩, ⟨m2, m3⟩, hres⟩ := HT.out w2 HB2.out
    obtain ⟨r0, r1, z0, z1⟩ := box_at hres
    cases hf2 : formB p q
    · go_wp2
      refine bodyPost_ret (v := .tuple #[BoxW none none 0 0 0 0, .bool false]) (res_cell_tmp Tryz.results44 _ _ (w.heap.size + 2) 66 _ (0, 0) _ rfl (put2 hres _ _) Tryz.underlying66 rfl (by rw [info_box]; rfl)) rfl ?_
      exact ⟨rfl, (HBw2.out.setCell (p := ⟨w.heap.size + 2, 0, none⟩) (by show w.heap.size ≤ w.heap.size + 2; omega) _).setCell (p := ⟨w.heap.size + 2, 1, none⟩) (by show w.heap.size ≤ w.heap.size + 2; omega) _⟩
    · have hnp : n ≠ p := fun h => by rw [hf1, hf2, h, beq_self_eq_true] at hbad; exact absurd hbad (by decide)
      have h5 : ((n : Int) != (p : Int)) = true := by rw [bne_iff_ne]; omega
      clear hnp hbad
      go_wp2
      refine bodyPost_ret (v := .tuple #[BoxW none none 0 0 0 0, .bool false]) (res_cell_tmp Tryz.results44 _ _ (w.heap.size + 2) 66 _ (0, 0) _ rfl (put2 hres _ _) Tryz.underlying66 rfl (by rw [info_box]; rfl)) rfl ?_
      exact ⟨rfl, (HBw2.out.setCell (p := ⟨w.heap.size + 2, 0, none⟩) (by show w.heap.size ≤ w.heap.size + 2; omega) _).setCell (p := ⟨w.heap.size + 2, 1, none⟩) (by show w.heap.size ≤ w.heap.size + 2; omega) _⟩
end Go.Proofs.YtkckoanphciddaaGreatDoor
end

/- A list of integers that grows by append: where it lies. -/
section
namespace Go.Proofs.YtkckoanphciddaaGreatDoor
open Go Go.RowKit Go.Deep

/-- The slice v is the walk's own, from block B on, and holds n numbers. -/
def OwnI (w : World) (B : Nat) (v : Value) (n : Nat) (f : Nat → Int) : Prop := ∃ xs, w.ownsRow B 3 1 v n xs ∧ ∀ k, k < n → xs[k]? = some (.int .i64 (f k))
theorem OwnI.ints {w : World} {B n : Nat} {v : Value} {f : Nat → Int} (h : OwnI w B v n f) : ∃ P c, v = .slice P n c ∧ IntsAt w P n f := by
  obtain ⟨xs, ⟨hl, h1⟩, h2⟩ := h
  rcases h1 with ⟨rfl, rfl⟩ | ⟨g, cap, cur, rfl, _, hh, hcap, _, hs, ht⟩
  · exact ⟨none, 0, rfl, fun h => absurd h (by omega)⟩
  · refine ⟨_, _, rfl, fun hn => ⟨g, 0, rfl, (Array.getElem?_eq_some_iff.1 hh).1, fun k hk => ?_⟩⟩
    rw [Nat.mul_one] at ht
    have h3 : cur.toList[k]? = some (.int .i64 (f k)) := by
      rw [← List.getElem?_take_of_lt hk, ht]
      exact h2 k hk
    rw [Array.getElem?_toList] at h3
    rw [Nat.zero_add]
    simp [World.cell?, hh, h3]
theorem OwnI.nil (w : World) (B : Nat) (f : Nat → Int) : OwnI w B (.slice none 0 0) 0 f := ⟨[], ⟨rfl, .inl ⟨rfl, rfl⟩⟩, fun k hk => absurd hk (by omega)⟩
theorem OwnI.kept {w w' : World} {B n : Nat} {v : Value} {f : Nat → Int} {row : Option Nat} (h : OwnI w B v n f) (hg : w.grownBy w' row) (hne : v.ownBlock = none ∨ v.ownBlock ≠ row) : OwnI w' B v n f := by
  obtain ⟨xs, h1, h2⟩ := h
  exact ⟨xs, h1.kept hg hne, h2⟩
theorem OwnI.block {w : World} {B n : Nat} {v : Value} {f : Nat → Int} (h : OwnI w B v n f) {g : Nat} (hg : v.ownBlock = some g) : B ≤ g ∧ g < w.heap.size := by
  obtain ⟨xs, h1, _⟩ := h
  obtain ⟨a, cs, b⟩ := own_lt h1 g hg
  exact ⟨a, (Array.getElem?_eq_some_iff.1 b).1⟩
/-- One number more, behind a literal of one number: the list lies where it lay, or in a new block. -/
theorem wpList_appI {ops : Array Oper} {rest : List Oper} {o : Oper} {a : Act} {Q : Exit → Act → World → Prop} (hgd : o.guard = none) (s x : Operand)
    (ho : o.op = .call { callee := .builtin .append, args := #[s, x], argTypes := #[35, 35] })
    (W : World) (d : Int) (B : Nat) (v : Value) (n : Nat) (f : Nat → Int) (hs : a.eval s = v) (b : Nat) (hx : a.eval x = .slice (some ⟨b, 0, none⟩) 1 1) (hbW : b = W.heap.size)
    (hown : OwnI W B v n f) (hn : n ≤ 1000000) (hB : B ≤ W.heap.size)
    (h : ∀ v' w', OwnI w' B v' (n + 1) (updZ f n d) → W.grownBy w' v.ownBlock → (v'.ownBlock = v.ownBlock ∨ ∃ g, v'.ownBlock = some g ∧ W.heap.size ≤ g) → wpList Tryz.prog ops Q rest (a.put o.dst v') w') : wpList Tryz.prog ops Q (o :: rest) a (W.alloc (.cells #[.int .i64 d] 3)) := by
  subst hbW
  obtain ⟨xs, h1, h2⟩ := hown
  have h1' : (W.alloc (.cells #[.int .i64 d] 3)).ownsRow B 3 1 v n xs := h1.alloc _
  obtain ⟨i0, hi0, hz0, hz1, hz2⟩ := info_parts info_int
  have hnew : ∀ j u, [Value.int .i64 d][j]? = some u → (W.alloc (.cells #[.int .i64 d] 3)).cell? ((⟨W.heap.size, 0, none⟩ : Addr).add j) = some u := by
    intro j u hu
    have hj : j = 0 := by
      rcases j with _ | j
      · rfl
      · simp at hu
    subst hj
    have hu' : u = .int .i64 d := by simpa using hu.symm
    subst hu'
    exact (World.rowIs_alloc W #[.int .i64 d] 3 (fun _ => .int .i64 d) (fun i hi => by
      have h9 : i = 0 := by simpa using hi
      subst h9
      rfl)).cell (i := 0) (by simp)
  refine wpList_append_own_at _ hgd s x 35 ho B 3 i0 (.int .i64 0) 1 8 Tryz.underlying35 hi0 hz0 hz1 hz2 rfl Nat.zero_lt_one v n xs hs h1' ⟨W.heap.size, 0, none⟩ 1 1 [.int .i64 d] hx rfl hnew
    (fun u hu => by have h9 : u = .int .i64 d := by simpa using hu
                    subst h9; rfl) (by unfold maxLen; omega) (by omega) (by simp; omega) ?_
  intro v' w' g1 g2 _ g4
  refine h v' w' ⟨xs ++ [.int .i64 d], g1, fun k hk => ?_⟩ ((World.grownBy_alloc W _ _).trans g2) (g4.imp id fun h9 => ⟨_, h9, by simp⟩)
  have hl : xs.length = n := by rw [h1.1, Nat.mul_one]
  unfold updZ
  by_cases e : k = n
  · subst e
    rw [if_pos rfl, List.getElem?_append_right (by omega), hl, Nat.sub_self]
    rfl
  · rw [if_neg e, List.getElem?_append_left (by omega)]
    exact h2 k (by omega)
end Go.Proofs.YtkckoanphciddaaGreatDoor
end

/- A box of two lists that grow. -/
section
namespace Go.Proofs.YtkckoanphciddaaGreatDoor
open Go Go.RowKit Go.Deep

theorem box_gen {W : World} {r : Nat} {x y : Value} (h : W.heap[r]? = some (.cells #[x, y] 66 (0, 0))) : W.cell? ⟨r, 0, none⟩ = some x ∧ W.cell? ⟨r, 1, none⟩ = some y ∧ W.frozen? ⟨r, 0, none⟩ = false ∧ W.frozen? ⟨r, 1, none⟩ = false := by
  refine ⟨by simp [World.cell?, h], by simp [World.cell?, h], by simp [World.frozen?, h], by simp [World.frozen?, h]⟩
theorem box_set0 {W : World} {r : Nat} {x y : Value} (h : W.heap[r]? = some (.cells #[x, y] 66 (0, 0))) (v : Value) : (W.setCell ⟨r, 0, none⟩ v).heap[r]? = some (.cells #[v, y] 66 (0, 0)) := by
  simp [World.setCell, Array.getElem?_modify, h]
theorem box_set1 {W : World} {r : Nat} {x y : Value} (h : W.heap[r]? = some (.cells #[x, y] 66 (0, 0))) (v : Value) : (W.setCell ⟨r, 1, none⟩ v).heap[r]? = some (.cells #[x, v] 66 (0, 0)) := by
  simp [World.setCell, Array.getElem?_modify, h]
theorem OwnI.congr {w : World} {B n : Nat} {v : Value} {f g : Nat → Int} (h : OwnI w B v n f) (hfg : ∀ k, k < n → f k = g k) : OwnI w B v n g := by
  obtain ⟨xs, h1, h2⟩ := h
  exact ⟨xs, h1, fun k hk => by rw [← hfg k hk]; exact h2 k hk⟩
theorem OwnI.ints' {w : World} {B n c : Nat} {P : Option Addr} {f : Nat → Int} (h : OwnI w B (.slice P n c) n f) : IntsAt w P n f := by
  obtain ⟨P', c', e, h1⟩ := h.ints
  injection e with e1
  subst e1
  exact h1
theorem OwnI.ne {w : World} {B n b : Nat} {v : Value} {f : Nat → Int} (h : OwnI w B v n f) (hb : b < B) : v.ownBlock = none ∨ v.ownBlock ≠ some b := by
  cases e : v.ownBlock with
  | none => exact .inl rfl
  | some g =>
    have := (h.block e).1
    refine .inr fun e2 => ?_
    injection e2 with e2
    omega
theorem ne_sym {v u : Option Nat} (h : v = none ∨ v ≠ u) : u = none ∨ u ≠ v := by
  cases u with
  | none => exact .inl rfl
  | some a =>
    refine .inr fun e => ?_
    rcases h with h | h
    · rw [h] at e; cases e
    · exact h e.symm
theorem ne_new {w : World} {B n : Nat} {v v' u : Value} {f : Nat → Int} (hu : OwnI w B u n f) (h : v.ownBlock = none ∨ v.ownBlock ≠ u.ownBlock) (hat : v'.ownBlock = v.ownBlock ∨ ∃ g, v'.ownBlock = some g ∧ w.heap.size ≤ g) : v'.ownBlock = none ∨ v'.ownBlock ≠ u.ownBlock := by
  rcases hat with e | ⟨g, e, hg⟩
  · rw [e]; exact h
  · refine .inr fun e2 => ?_
    rw [e] at e2
    have := (hu.block e2.symm).2
    omega
theorem kept_at {w w' : World} {b : Nat} {row : Option Nat} (hg : w.grownBy w' row) (hb : b < w.heap.size) (hne : row = none ∨ row ≠ some b) : w'.heap[b]? = w.heap[b]? :=
  hg.block b hb fun e => by
    rcases hne with h | h
    · rw [h] at e; cases e
    · exact h e.symm
theorem below_own {a w w' : World} {A B n : Nat} {v : Value} {f : Nat → Int} (hb : Below A a w) (hA : A ≤ w.heap.size) (ho : OwnI w B v n f) (hAB : A ≤ B) (hg : w.grownBy w' v.ownBlock) : Below A a w' :=
  hb.grown hg hA fun g e => by have := (ho.block e).1; omega
/-- The box at ob holds two lists of the walk's own. -/
def InS2 (ob : Nat) (W : World) (x1 x2 : Value) (k1 k2 : Nat) (f g : Nat → Int) : Prop :=
  W.heap[ob]? = some (.cells #[x1, x2] 66 (0, 0)) ∧ OwnI W (ob + 1) x1 k1 f ∧ OwnI W (ob + 1) x2 k2 g ∧ (x1.ownBlock = none ∨ x1.ownBlock ≠ x2.ownBlock)
theorem InS2.app1 {W W' : World} {ob : Nat} {x1 x2 x1' : Value} {k1 k2 : Nat} {f g f' : Nat → Int} (h : InS2 ob W x1 x2 k1 k2 f g) (ho : OwnI W' (ob + 1) x1' (k1 + 1) f') (hg : W.grownBy W' x1.ownBlock) (hat : x1'.ownBlock = x1.ownBlock ∨ ∃ g, x1'.ownBlock = some g ∧ W.heap.size ≤ g) :
    W'.heap[ob]? = some (.cells #[x1, x2] 66 (0, 0)) ∧ InS2 ob (W'.setCell ⟨ob, 0, none⟩ x1') x1' x2 (k1 + 1) k2 f' g ∧ Below ob W (W'.setCell ⟨ob, 0, none⟩ x1') := by
  obtain ⟨hbx, HO1, HO2, HNe⟩ := h
  have hobl : ob < W.heap.size := (Array.getElem?_eq_some_iff.1 hbx).1
  have hbx8 := (kept_at hg hobl (HO1.ne (by omega))).trans hbx
  have ho28 := HO2.kept hg (ne_sym HNe)
  have HB8 : Below ob W W' := below_own (Below.refl _ _) (by omega) HO1 (by omega) hg
  exact ⟨hbx8, ⟨box_set0 hbx8 x1', ho.kept (grown_set W' ob 0 x1') (ho.ne (by omega)), ho28.kept (grown_set W' ob 0 x1') (ho28.ne (by omega)), ne_new HO2 HNe hat⟩, HB8.setCell (p := ⟨ob, 0, none⟩) (Nat.le_refl _) _⟩
theorem InS2.app2 {W W' : World} {ob : Nat} {x1 x2 x2' : Value} {k1 k2 : Nat} {f g g' : Nat → Int} (h : InS2 ob W x1 x2 k1 k2 f g) (ho : OwnI W' (ob + 1) x2' (k2 + 1) g') (hg : W.grownBy W' x2.ownBlock) (hat : x2'.ownBlock = x2.ownBlock ∨ ∃ g, x2'.ownBlock = some g ∧ W.heap.size ≤ g) :
    W'.heap[ob]? = some (.cells #[x1, x2] 66 (0, 0)) ∧ InS2 ob (W'.setCell ⟨ob, 1, none⟩ x2') x1 x2' k1 (k2 + 1) f g' ∧ Below ob W (W'.setCell ⟨ob, 1, none⟩ x2') := by
  obtain ⟨hbx, HO1, HO2, HNe⟩ := h
  have hobl : ob < W.heap.size := (Array.getElem?_eq_some_iff.1 hbx).1
  have hbx8 := (kept_at hg hobl (HO2.ne (by omega))).trans hbx
  have ho18 := HO1.kept hg HNe
  have HB8 : Below ob W W' := below_own (Below.refl _ _) (by omega) HO2 (by omega) hg
  exact ⟨hbx8, ⟨box_set1 hbx8 x2', ho18.kept (grown_set W' ob 1 x2') (ho18.ne (by omega)), ho.kept (grown_set W' ob 1 x2') (ho.ne (by omega)), ne_sym (ne_new HO1 (ne_sym HNe) hat)⟩, HB8.setCell (p := ⟨ob, 1, none⟩) (Nat.le_refl _) _⟩
end Go.Proofs.YtkckoanphciddaaGreatDoor
end

/- The reference's names and bounds. -/
section
namespace Go.Proofs.YtkckoanphciddaaGreatDoor
open Go Go.RowKit Go.Deep

theorem ret_b {a b : Bool} (h : a = b) : Ending.returned (.bool a) = .returned (.bool b) := by rw [h]
set_option maxHeartbeats 400000 in
theorem r_letter (c : Int) (w : World) : Calls Tryz.prog 139 #[.int .u8 c] w fun e w' => e = .returned (.bool (letB c)) ∧ w = w' := by
  by_cases h : 97 ≤ c
  · have e1 : letB c = decide (c ≤ 122) := by simp [letB, h]
    rw [e1]
    go_enter Tryz.func139, Tryz.ntmps139
    go_wp2
    go_ret
    exact ⟨rfl, rfl⟩
  · have e1 : letB c = false := by simp [letB, h]
    rw [e1]
    go_enter Tryz.func139, Tryz.ntmps139
    go_wp2
    go_ret
    exact ⟨rfl, rfl⟩
set_option maxHeartbeats 1000000 in
theorem r_further (c : Int) (w : World) : Calls Tryz.prog 140 #[.int .u8 c] w fun e w' => e = .returned (.bool (chrB c)) ∧ w = w' := by
  have HL := Lib.hid r_letter
  have HX : Hid (chrB c = (letB c || ((decide (48 ≤ c) && decide (c ≤ 57)) || c == 95))) := rfl
  go_enter Tryz.func140, Tryz.ntmps140
  go_wp2_with fail
  refine (HL.out _ _).mono ?_
  rintro e w1 ⟨rfl, rfl⟩
  generalize letB c = L at *
  cases L
  · by_cases g1 : 48 ≤ c
    · by_cases g2 : c ≤ 57
      · rw [decide_eq_true g1, decide_eq_true g2] at HX
        go_wp2
        go_ret
        exact ⟨ret_b (by rw [HX.out]; rfl), rfl⟩
      · rw [decide_eq_true g1] at HX
        go_wp2
        go_ret
        exact ⟨ret_b (by rw [HX.out]; rfl), rfl⟩
    · rw [decide_eq_false g1] at HX
      go_wp2
      go_ret
      exact ⟨ret_b (by rw [HX.out]; rfl), rfl⟩
  · go_wp2
    go_ret
    exact ⟨ret_b (by rw [HX.out]; simp), rfl⟩

set_option maxRecDepth 100000 in
set_option maxHeartbeats 2000000 in
theorem r_Name (s : ByteArray) (w : World) (hs : s.size ≤ 9223372036854775807) : Calls Tryz.prog 103 #[.string s] w fun e w' => e = .returned (.bool (nameB s)) ∧ w = w' := by
  have HL := Lib.hid r_letter
  have HF := Lib.hid r_further
  by_cases h0 : s.size = 0
  · have e1 : nameB s = false := by simp [nameB, h0]
    have h0' : (s.size : Int) < 1 := by omega
    rw [e1]
    clear e1
    go_enter Tryz.func103, Tryz.ntmps103
    go_wp2
    go_ret
    exact ⟨rfl, rfl⟩
  · have h0' : ¬ (s.size : Int) < 1 := by omega
    by_cases h1 : s.size ≤ 12
    · have hp : 0 < s.size := by omega
      have h1' : ¬ (s.size : Int) > 12 := by omega
      have HB := Lib.hid (byt_eq s 0 hp)
      have HN : Hid (nameB s = (letB (byt s 0) && nameTo s s.size)) := by show _ = _; simp [nameB, hp, h1]
      have HS := Lib.hid h1
      rw [HN.out]
      clear h0 h1
      go_enter Tryz.func103, Tryz.ntmps103
      go_wp2_with fail
      refine (HL.out _ _).mono ?_
      rintro e w1 ⟨rfl, rfl⟩
      rw [← HB.out]
      generalize hL : letB (byt s 0) = L
      have HLv := Lib.hid hL
      clear hL
      cases L
      · go_wp2
        go_ret
        exact ⟨ret_b (by rw [HLv.out]; rfl), rfl⟩
      · go_wp2
        go_loop [3] (fun i => ∃ k : Nat, k ≤ s.size ∧ i = .int .i64 k ∧ Hid (nameTo s k = true)) (fun i => s.size - (intOf i).toNat)
        case atStart => exact ⟨0, Nat.zero_le _, rfl, rfl⟩
        case round =>
          obtain ⟨k, hk, rfl, HK⟩ := hrel
          by_cases hlt : k < s.size
          · have HBk := Lib.hid (byt_eq s k hlt)
            have HC : Hid (chrB (s[k].toNat : Int) = true → nameTo s (k + 1) = true) := fun h => by rw [nameTo_succ, HK.out, HBk.out, h]; rfl
            have HE : Hid (chrB (s[k].toNat : Int) = false → nameTo s s.size = false) := fun h => nameTo_le (k := k + 1) (by rw [nameTo_succ, HBk.out, h, Bool.and_false]) (by omega)
            go_wp2_with fail
            refine (HF.out _ _).mono ?_
            rintro e w1 ⟨rfl, rfl⟩
            generalize chrB (s[k].toNat : Int) = L at *
            cases L
            · have HR := Lib.hid (HE.out rfl)
              go_wp2
              go_ret
              exact ⟨ret_b (by rw [HLv.out, HR.out]; rfl), rfl⟩
            · have HR := Lib.hid (HC.out rfl)
              go_wp2
              go_round
              case rel => exact ⟨k + 1, by omega, by go_num, HR.out⟩
              case measure => simp [intOf]; omega
          · obtain rfl : k = s.size := by omega
            go_wp2
            go_ret
            exact ⟨ret_b (by rw [HLv.out, HK.out]; rfl), rfl⟩
    · have e1 : nameB s = false := by simp [nameB, h1]
      have h1' : (s.size : Int) > 12 := by omega
      rw [e1]
      clear e1
      go_enter Tryz.func103, Tryz.ntmps103
      go_wp2
      go_ret
      exact ⟨rfl, rfl⟩

def boundB (lo hi : Int) : Bool := if lo < -1073741824 ∨ lo > 1073741824 ∨ hi < lo ∨ hi > 1073741825 then false else true
set_option maxHeartbeats 2000000 in
theorem r_bounds (s : ByteArray) (lo hi : Int) (w : World) : Calls Tryz.prog 121 #[DimV s lo hi] w fun e w' => e = .returned (.bool (boundB lo hi)) ∧ Below w.heap.size w w' := by
  have HX : Hid (boundB lo hi = if lo < -1073741824 ∨ lo > 1073741824 ∨ hi < lo ∨ hi > 1073741825 then false else true) := rfl
  have hb : Below w.heap.size w (w.alloc (.cells #[.string s, .int .i64 lo, .int .i64 hi] 43)) := (Below.refl _ _).alloc (Nat.le_refl _) _
  go_enter Tryz.func121, Tryz.ntmps121
  by_cases g1 : lo < -1073741824
  · have g1' : ¬ lo ≥ -1073741824 := by omega
    go_wp2
    go_ret
    exact ⟨ret_b (by rw [HX.out, if_pos (by omega)]), hb⟩
  · have g1' : lo ≥ -1073741824 := by omega
    by_cases g2 : lo > 1073741824
    · have g2' : ¬ lo ≤ 1073741824 := by omega
      go_wp2
      go_ret
      exact ⟨ret_b (by rw [HX.out, if_pos (by omega)]), hb⟩
    · have g2' : lo ≤ 1073741824 := by omega
      by_cases g3 : hi < lo
      · have g3' : ¬ hi ≥ lo := by omega
        go_wp2
        go_ret
        exact ⟨ret_b (by rw [HX.out, if_pos (by omega)]), hb⟩
      · have g3' : hi ≥ lo := by omega
        by_cases g4 : hi > 1073741825
        · have g4' : ¬ hi ≤ 1073741825 := by omega
          go_wp2
          go_ret
          exact ⟨ret_b (by rw [HX.out, if_pos (by omega)]), hb⟩
        · have g4' : hi ≤ 1073741825 := by omega
          go_wp2
          go_ret
          exact ⟨ret_b (by rw [HX.out, if_neg (by omega)]), hb⟩
set_option maxRecDepth 100000 in
set_option maxHeartbeats 1000000 in
theorem r_Last (s : ByteArray) (lo hi : Int) (w : World) : Calls Tryz.prog 82 #[DimV s lo hi] w fun e w' => e = .returned (.int .i64 (lastZ hi)) ∧ Below w.heap.size w w' := by
  by_cases h : hi ≤ 1073741824
  · have e1 : lastZ hi = hi := if_pos h
    rw [e1]
    go_enter Tryz.func82, Tryz.ntmps82
    go_wp2
    go_ret
    refine ⟨?_, (Below.refl _ _).alloc (Nat.le_refl _) _⟩
    first
    | rfl
    | (show Ending.returned (.int .i64 (min hi 1073741824)) = _; rw [Int.min_eq_left h])
  · have e1 : lastZ hi = 1073741824 := if_neg h
    rw [e1]
    go_enter Tryz.func82, Tryz.ntmps82
    go_wp2
    go_ret
    refine ⟨?_, (Below.refl _ _).alloc (Nat.le_refl _) _⟩
    first
    | rfl
    | (show Ending.returned (.int .i64 (min hi 1073741824)) = _; rw [Int.min_eq_right (by omega)])
end Go.Proofs.YtkckoanphciddaaGreatDoor
end

/- The reference's error of dimensions. -/
section
namespace Go.Proofs.YtkckoanphciddaaGreatDoor
open Go Go.RowKit Go.Deep

/-- Does one of the first k names equal s? -/
def dupTo (nm : Nat → ByteArray) (s : ByteArray) : Nat → Bool
  | 0 => false
  | k + 1 => dupTo nm s k || decide (nm k = s)
theorem dupTo_le {nm : Nat → ByteArray} {s : ByteArray} {k n : Nat} (h : dupTo nm s k = true) (hn : k ≤ n) : dupTo nm s n = true := by
  induction n with
  | zero => obtain rfl : k = 0 := by omega
            exact h
  | succ n ih =>
    by_cases e : k = n + 1
    · rw [← e]; exact h
    · rw [dupTo, ih (by omega)]; rfl
theorem dup_in (nm : Nat → ByteArray) (s : ByteArray) : ∀ k, inN (metK [] nm k) s = dupTo nm s k
  | 0 => inN_false.2 (by simp [metK])
  | k + 1 => by
    have ih := dup_in nm s k
    rw [dupTo, ← ih]
    by_cases h : nm k = s
    · rw [decide_eq_true h, Bool.or_true]
      exact inN_true.2 (by rw [metK, h]; exact List.mem_cons_self)
    · rw [decide_eq_false h, Bool.or_false]
      cases h2 : inN (metK [] nm k) s
      · exact inN_false.2 (by rw [metK]; intro h3; rcases List.mem_cons.1 h3 with h4 | h4; · exact h h4.symm
                              · exact inN_false.1 h2 h4)
      · exact inN_true.2 (by rw [metK]; exact List.mem_cons_of_mem _ (inN_true.1 h2))
theorem dimE_of (nm : Nat → ByteArray) (s : ByteArray) (k : Nat) (lo hi : Int) : dimE (metK [] nm k) s lo hi = if nameB s = false then 11 else if dupTo nm s k = true then 11 else if boundB lo hi = true then 0 else 3 := by
  rw [dimE, dup_in]
  cases h1 : nameB s
  · rfl
  · cases h2 : dupTo nm s k
    · unfold boundB
      by_cases h3 : lo < -1073741824 ∨ lo > 1073741824 ∨ hi < lo ∨ hi > 1073741825
      · rw [if_pos h3, if_pos h3]; rfl
      · rw [if_neg h3, if_neg h3]; rfl
    · rfl

theorem str_eq {s t : ByteArray} (h : (s.toList == t.toList) = true) : s = t := by
  have h1 : s.toList = t.toList := by simpa using h
  rw [ByteArray.toList_eq, ByteArray.toList_eq] at h1
  obtain ⟨⟨a⟩⟩ := s
  obtain ⟨⟨b⟩⟩ := t
  simp only at h1
  rw [h1]

set_option maxRecDepth 100000 in
set_option maxHeartbeats 4000000 in
theorem r_Dims (w : World) (A : Option Addr) (n cap : Nat) (nm : Nat → ByteArray) (lo hi : Nat → Int) (hd : DimsAt w A n nm lo hi) (hs : ∀ k, k < n → (nm k).size ≤ 9223372036854775807) (hn10 : n ≤ 1000) :
    Calls Tryz.prog 72 #[.slice A n cap] w fun e w' => e = .returned (.int .i64 (dimsZ nm lo hi n)) ∧ Below w.heap.size w w' := by
  have HD := Lib.hid hd
  have HS := Lib.hid hs
  have HNm := Lib.hid r_Name
  have HBd := Lib.hid r_bounds
  clear hd hs
  by_cases hn : n = 0 ∨ 4 < n
  · have e1 : dimsZ nm lo hi n = 13 := if_pos hn
    rw [e1]
    rcases hn with rfl | hn
    · go_enter Tryz.func72, Tryz.ntmps72
      go_wp2
      go_ret
      exact ⟨rfl, Below.refl _ _⟩
    · have h1 : ¬ (n : Int) < 1 := by omega
      have h2 : (n : Int) > 4 := by omega
      clear hn e1
      go_enter Tryz.func72, Tryz.ntmps72
      go_wp2
      go_ret
      exact ⟨rfl, Below.refl _ _⟩
  · have h1 : ¬ (n : Int) < 1 := by omega
    have h2 : ¬ (n : Int) > 4 := by omega
    have h3 : n ≤ 4 := by omega
    have HZ : Hid (dimsZ nm lo hi n = dimsTo [] nm lo hi n) := if_neg hn
    rw [HZ.out]
    clear hn HZ
    go_enter Tryz.func72, Tryz.ntmps72
    go_wp2
    go_loopw [3, 4] (fun i _ wr => ∃ k : Nat, k ≤ n ∧ i = .int .i64 k ∧ Hid (dimsTo [] nm lo hi k = 0 ∧ Below w.heap.size w wr)) (fun i _ _ => n - (intOf i).toNat)
    case atStart => exact ⟨0, Nat.zero_le _, rfl, rfl, Below.refl _ _⟩
    case round =>
      obtain ⟨k, hk, rfl, HK⟩ := hrel
      by_cases hlt : k < n
      · have HB := Lib.hid HK.out.2
        obtain ⟨bd, o, rfl, hbd, hc⟩ := (HD.out.below HB.out) (by omega)
        obtain ⟨c0, c1, c2⟩ := hc k hlt
        have HCW : Hid (∀ W, Below w.heap.size w W → W.cell? ⟨bd, o + k * 3, none⟩ = some (.string (nm k)) ∧ W.cell? ⟨bd, o + k * 3 + 1, none⟩ = some (.int .i64 (lo k)) ∧ W.cell? ⟨bd, o + k * 3 + 2, none⟩ = some (.int .i64 (hi k))) := fun W hW => by
          obtain ⟨bd', o', e1, _, hc'⟩ := (HD.out.below hW) (by omega)
          injection e1 with e1
          injection e1 with e1 e2
          subst e1 e2
          exact hc' k hlt
        clear hc
        have HT : Hid (dimsTo [] nm lo hi (k + 1) = if nameB (nm k) = false then 11 else if dupTo nm (nm k) k = true then 11 else if boundB (lo k) (hi k) = true then 0 else 3) := by show _ = _; rw [dimsTo, if_pos HK.out.1, dimE_of]
        have HE : Hid (dimsTo [] nm lo hi (k + 1) ≠ 0 → dimsTo [] nm lo hi n = dimsTo [] nm lo hi (k + 1)) := fun h => dimsTo_le h (by omega)
        have HNk := Lib.hid (fun W => HNm.out (nm k) W (HS.out k hlt))
        generalize hs9 : nm k = s at *
        have HSN := Lib.hid hs9
        clear hs9
        generalize lo k = l0 at *
        generalize hi k = h0 at *
        obtain ⟨D, hDe⟩ : ∃ D, dimsTo [] nm lo hi (k + 1) = D := ⟨_, rfl⟩
        have HDe := Lib.hid hDe
        rw [hDe] at HE HT
        clear hDe
        go_wp2_with fail
        refine (HNk.out _).mono ?_
        rintro e w1 ⟨rfl, rfl⟩
        cases hb : nameB s
        · have HD1 : Hid (dimsTo [] nm lo hi n = 11) := by
            have h9 : D = 11 := by rw [HT.out, if_pos hb]
            exact (HE.out (by rw [h9]; decide)).trans h9
          go_wp2
          go_ret
          exact ⟨by rw [HD1.out]; rfl, HB.out⟩
        · have HT2 : Hid (D = if dupTo nm s k = true then 11 else if boundB l0 h0 = true then 0 else 3) := by show _ = _; rw [HT.out, if_neg (by rw [hb]; decide)]
          clear hb HT HNk
          go_wp2
          obtain ⟨wo, rfl⟩ : ∃ wo, wo = wr := ⟨_, rfl⟩
          go_loopw [4] (fun i wr => ∃ j : Nat, j ≤ k ∧ i = .int .i64 j ∧ Hid (dupTo nm s j = false) ∧ Hid (Below w.heap.size w wr)) (fun i _ => k - (intOf i).toNat)
          case atStart => exact ⟨0, Nat.zero_le _, rfl, rfl, HB.out⟩
          case round =>
            obtain ⟨j, hj, rfl, HJ, HBj⟩ := hrel
            by_cases hlt2 : j < k
            · have HCC : Hid (∀ W, Below w.heap.size w W → W.cell? ⟨bd, o + j * 3, none⟩ = some (.string (nm j)) ∧ W.cell? ⟨bd, o + k * 3, none⟩ = some (.string s)) := fun W hW => by
                obtain ⟨bd', o', e1, _, hc'⟩ := (HD.out.below hW) (by omega)
                injection e1 with e1
                injection e1 with e1 e2
                subst e1 e2
                refine ⟨(hc' j (by omega)).1, ?_⟩
                rw [(hc' k hlt).1, HSN.out]
              obtain ⟨y0, y1⟩ := HCC.out wr HBj.out
              have HU : Hid (dupTo nm s (j + 1) = decide (nm j = s)) := by show _ = _; rw [dupTo, HJ.out, Bool.false_or]
              have HUl : Hid (dupTo nm s (j + 1) = true → dupTo nm s k = true) := fun h => dupTo_le h (by omega)
              generalize nm j = t at *
              by_cases he : t = s
              · subst he
                have HD1 : Hid (dimsTo [] nm lo hi n = 11) := by
                  have h9 : D = 11 := by rw [HT2.out, if_pos (HUl.out (by rw [HU.out, decide_eq_true rfl]))]
                  exact (HE.out (by rw [h9]; decide)).trans h9
                go_wp2
                go_quiet (fail)
                go_wp2
                go_ret
                exact ⟨by rw [HD1.out]; rfl, drewB HBj.out _⟩
              · have h5 : (t.toList == s.toList) = false := by
                  cases h6 : t.toList == s.toList
                  · rfl
                  · exact absurd (str_eq h6) he
                have HR : Hid (dupTo nm s (j + 1) = false) := by show _ = _; rw [HU.out, decide_eq_false he]
                go_wp2
                go_quiet (fail)
                go_wp2
                go_roundw
                case rel => exact ⟨j + 1, by omega, by go_num, HR.out, drewB HBj.out _⟩
                case measure => simp [intOf]; omega
            · obtain rfl : j = k := by omega
              have HT3 : Hid (D = if boundB l0 h0 = true then 0 else 3) := by show _ = _; rw [HT2.out, if_neg (by rw [HJ.out]; decide)]
              have HBk := Lib.hid (fun W => HBd.out s l0 h0 W)
              obtain ⟨k0, k1, k2⟩ := HCW.out wr HBj.out
              clear c0 c1 c2
              cases hb2 : boundB l0 h0
              · rw [hb2] at HBk
                have HD1 : Hid (dimsTo [] nm lo hi n = 3) := by
                  have h9 : D = 3 := by rw [HT3.out, if_neg (by rw [hb2]; decide)]
                  exact (HE.out (by rw [h9]; decide)).trans h9
                clear hb2
                go_wp2_with fail
                refine (HBk.out _).mono ?_
                rintro e w2 ⟨rfl, hb2⟩
                have HB2 : Hid (Below w.heap.size w w2) := st HBj.out hb2
                go_wp2
                go_ret
                exact ⟨by rw [HD1.out]; rfl, HB2.out⟩
              · rw [hb2] at HBk
                have HD1 : Hid (D = 0) := by show _ = _; rw [HT3.out, if_pos hb2]
                clear hb2
                go_wp2_with fail
                refine (HBk.out _).mono ?_
                rintro e w2 ⟨rfl, hb2⟩
                have HB2 : Hid (Below w.heap.size w w2) := st HBj.out hb2
                go_wp2
                go_roundw
                case rel => exact ⟨j + 1, by omega, by go_num, HDe.out.trans HD1.out, HB2.out⟩
                case measure => simp [intOf]; omega
      · obtain rfl : k = n := by omega
        go_wp2
        go_ret
        exact ⟨by rw [HK.out.1]; rfl, HK.out.2⟩
end Go.Proofs.YtkckoanphciddaaGreatDoor
end
