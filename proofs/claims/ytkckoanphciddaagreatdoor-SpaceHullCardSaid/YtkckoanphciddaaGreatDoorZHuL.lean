/- The array that is returned beside an error. -/
import Derived.Test.YtkckoanphciddaaGreatDoorZAppC
import Derived.Test.YtkckoanphciddaaGreatDoorZSeq
import Derived.Test.YtkckoanphciddaaGreatDoorZCmpS
import Derived.Test.YtkckoanphciddaaGreatDoorZSpH
import Derived.Test.YtkckoanphciddaaGreatDoorZClo2
import Derived.StillTailTactics
import Derived.Test.YtkckoanphciddaaGreatDoorZBldK
import Derived.Maps.AppendAt

/- The array that is returned beside an error. -/
section
namespace Go.Proofs.YtkckoanphciddaaGreatDoor
open Go Go.RowKit Go.Deep

/-- The array without anything. -/
def noAr : ArD := ⟨0, fun _ => ⟨#[]⟩, fun _ => 0, fun _ => 0, 0, fun _ => ⟨#[]⟩, fun _ => 0, 0, ⟨fun _ => 0, fun _ => 0, fun _ _ => 0, fun _ _ => 0, fun _ _ => 0, fun _ _ => 0, fun _ _ => ⟨#[]⟩⟩⟩
theorem noAr_at (w : World) : ArAt w ⟨none, 0, none, 0, none, 0⟩ noAr := ⟨fun h => absurd h (Nat.lt_irrefl 0), fun h => absurd h (Nat.lt_irrefl 0), fun h => absurd h (Nat.lt_irrefl 0)⟩
theorem ArUp.grown {W W' : World} {B b : Nat} {p : ArP} {D : ArD} (h : ArUp W B p D) (hg : W.grownBy W' (some b)) (hb : b < B) : ArUp W' B p D := ⟨(h.dims.row.grown hg (h.upA.ne hb)).dims, (h.attrs.row.grown hg (h.upB.ne hb)).attrs, h.cells.grown hg hb, h.upA, h.upB⟩
end Go.Proofs.YtkckoanphciddaaGreatDoor
end

/- Boxes: what is in them; the reference's too. -/
section
namespace Go.Proofs.YtkckoanphciddaaGreatDoor
open Go Go.RowKit Go.Deep

def belB (x hi : Int) : Bool := decide (x ≤ hi) || decide (1073741825 ≤ hi)
theorem s_below (x hi : Int) (w : World) : Calls Tryz.prog 96 #[.int .i64 x, .int .i64 hi] w fun e w' => e = .returned (.bool (belB x hi)) ∧ w' = w := by
  have HE : Hid (belB x hi = (decide (x ≤ hi) || decide (1073741825 ≤ hi))) := rfl
  go_enter Tryz.func96, Tryz.ntmps96
  by_cases g1 : x ≤ hi
  · rw [decide_eq_true g1] at HE
    go_wp2
    go_ret
    exact ⟨by rw [HE.out]; rfl, rfl⟩
  · rw [decide_eq_false g1] at HE
    by_cases g2 : hi ≥ 1073741825
    · have g3 : (1073741825 : Int) ≤ hi := g2
      rw [decide_eq_true g3] at HE
      go_wp2
      go_ret
      exact ⟨by rw [HE.out]; rfl, rfl⟩
    · have g3 : ¬ (1073741825 : Int) ≤ hi := g2
      rw [decide_eq_false g3] at HE
      go_wp2
      go_ret
      exact ⟨by rw [HE.out]; rfl, rfl⟩
theorem r_below (x hi : Int) (w : World) : Calls Tryz.prog 125 #[.int .i64 x, .int .i64 hi] w fun e w' => e = .returned (.bool (belB x hi)) ∧ w' = w := by
  have HE : Hid (belB x hi = (decide (x ≤ hi) || decide (1073741825 ≤ hi))) := rfl
  go_enter Tryz.func125, Tryz.ntmps125
  by_cases g2 : hi ≥ 1073741825
  · have g3 : (1073741825 : Int) ≤ hi := g2
    rw [decide_eq_true g3, Bool.or_true] at HE
    go_wp2
    go_ret
    exact ⟨by rw [HE.out]; rfl, rfl⟩
  · have g3 : ¬ (1073741825 : Int) ≤ hi := g2
    rw [decide_eq_false g3, Bool.or_false] at HE
    by_cases g1 : x ≤ hi
    · rw [decide_eq_true g1] at HE
      go_wp2
      go_ret
      exact ⟨by rw [HE.out]; rfl, rfl⟩
    · rw [decide_eq_false g1] at HE
      go_wp2
      go_ret
      exact ⟨by rw [HE.out]; rfl, rfl⟩
theorem r_Formed (w : World) (L H : Option Addr) (n c m d : Nat) : Calls Tryz.prog 83 #[BoxW L H n c m d] w fun e w' => e = .returned (.bool (n == m && (decide (1 ≤ n) && decide (n ≤ 4)))) ∧ w' = w.alloc (.cells #[.slice L n c, .slice H m d] 66) := by
  obtain ⟨l0, l1⟩ := box_two w (.slice L n c) (.slice H m d) 66 _ (Below.refl _ _)
  have hnm : ((n : Int) == (m : Int)) = (n == m) := by rw [Bool.eq_iff_iff, beq_iff_eq, beq_iff_eq]; omega
  have h1 : decide ((1 : Int) ≤ (n : Int)) = decide (1 ≤ n) := by rw [decide_eq_decide]; omega
  have h4 : decide ((n : Int) ≤ 4) = decide (n ≤ 4) := by rw [decide_eq_decide]; omega
  go_enter Tryz.func83, Tryz.ntmps83
  cases hb : n == m
  · rw [hb] at hnm
    go_wp2
    go_ret
    exact ⟨rfl, rfl⟩
  · rw [hb] at hnm
    by_cases g1 : 1 ≤ n
    · rw [decide_eq_true g1] at h1 ⊢
      go_wp2
      go_ret
      exact ⟨rfl, rfl⟩
    · rw [decide_eq_false g1] at h1 ⊢
      go_wp2
      go_ret
      exact ⟨rfl, rfl⟩
def formB (n m : Nat) : Bool := n == m && (decide (1 ≤ n) && decide (n ≤ 4))
theorem formB_ok {n m : Nat} (h : formB n m = true) : n = m ∧ 1 ≤ n ∧ n ≤ 4 := by
  simpa [formB, and_assoc] using h
theorem s_formed (w : World) (L H : Option Addr) (n c m d : Nat) : Calls Tryz.prog 94 #[BoxW L H n c m d] w fun e w' => e = .returned (.bool (formB n m)) ∧ Below w.heap.size w w' :=
  (s_wellFormed w L H n c m d).mono fun e w' h => ⟨h.1, by rw [h.2]; exact (Below.refl _ _).alloc (Nat.le_refl _) _⟩
theorem r_formed (w : World) (L H : Option Addr) (n c m d : Nat) : Calls Tryz.prog 83 #[BoxW L H n c m d] w fun e w' => e = .returned (.bool (formB n m)) ∧ Below w.heap.size w w' :=
  (r_Formed w L H n c m d).mono fun e w' h => ⟨h.1, by rw [h.2]; exact (Below.refl _ _).alloc (Nat.le_refl _) _⟩
/-- Are the first k coordinates in the box? -/
def hasTo (l h v : Nat → Int) : Nat → Bool
  | 0 => true
  | k + 1 => hasTo l h v k && (decide (l k ≤ v k) && belB (v k) (h k))
theorem hasTo_le {l h v : Nat → Int} {k n : Nat} (hf : hasTo l h v k = false) (hn : k ≤ n) : hasTo l h v n = false := by
  induction n with
  | zero => obtain rfl : k = 0 := by omega
            exact hf
  | succ n ih =>
    by_cases e : k = n + 1
    · rw [← e]; exact hf
    · rw [hasTo, ih (by omega)]; rfl
def hasB (n m p : Nat) (l h v : Nat → Int) : Bool := formB n m && (p == n && hasTo l h v n)
set_option maxRecDepth 100000 in
set_option maxHeartbeats 4000000 in
theorem s_Has (w : World) (L H X : Option Addr) (n c m d p e : Nat) (l h v : Nat → Int) (hl : IntsAt w L n l) (hh : IntsAt w H m h) (hx : IntsAt w X p v) (hp : p ≤ 1000) (hn1 : n ≤ 1000) :
    Calls Tryz.prog 93 #[BoxW L H n c m d, .slice X p e] w fun e w' => e = .returned (.bool (hasB n m p l h v)) ∧ Below w.heap.size w w' := by
  have KB := Lib.hid (box_two w (.slice L n c) (.slice H m d) 66)
  have HB : Hid (Below w.heap.size w (w.alloc (.cells #[.slice L n c, .slice H m d] 66))) := (Below.refl _ _).alloc (Nat.le_refl _) _
  have HF := Lib.hid (s_formed (w.alloc (.cells #[.slice L n c, .slice H m d] 66)) L H n c m d)
  have HL := Lib.hid hl
  have HH := Lib.hid hh
  have HX := Lib.hid hx
  have HBe := Lib.hid s_below
  obtain ⟨ve, hve⟩ : ∃ ve, hasB n m p l h v = ve := ⟨_, rfl⟩
  rw [hve]
  have HV : Hid (ve = (formB n m && (p == n && hasTo l h v n))) := hve.symm
  clear hl hh hx hve
  go_enter Tryz.func93, Tryz.ntmps93
  obtain ⟨m0, m1⟩ := KB.out _ (Below.refl _ _)
  go_wp2_with fail
  clear m0 m1
  generalize w.alloc (.cells #[.slice L n c, .slice H m d] 66) = W0 at *
  refine HF.out.mono ?_
  rintro e w1 ⟨rfl, hb1⟩
  have HB1 := Lib.hid hb1
  clear hb1 HF
  obtain ⟨m0, m1⟩ := KB.out w1 HB1.out
  cases hf : formB n m
  · have HE : Hid (ve = false) := by show _ = _; rw [HV.out, hf]; rfl
    go_wp2
    go_ret
    exact ⟨by rw [HE.out]; rfl, st HB.out HB1.out⟩
  · obtain ⟨rfl, h1, h4⟩ := formB_ok hf
    have HV2 : Hid (ve = (p == n && hasTo l h v n)) := by show _ = _; rw [HV.out, hf, Bool.true_and]
    clear hf HV
    by_cases hpn : p = n
    · subst hpn
      have HV3 : Hid (ve = hasTo l h v p) := by show _ = _; rw [HV2.out, beq_self_eq_true, Bool.true_and]
      clear HV2
      go_wp2
      clear m0 m1
      go_loopw [5, 6, 20] (fun _ _ i wr => ∃ k : Nat, k ≤ p ∧ i = .int .i64 k ∧ Hid (hasTo l h v k = true) ∧ Hid (Below W0.heap.size W0 wr)) (fun _ _ i _ => p - (intOf i).toNat)
      case atStart => exact ⟨0, Nat.zero_le _, rfl, rfl, HB1.out⟩
      case round =>
        obtain ⟨k, hk, rfl, HK, HBw⟩ := hrel
        by_cases hlt : k < p
        · obtain ⟨m0, m1⟩ := KB.out wr HBw.out
          have HBB : Hid (Below w.heap.size w wr) := st HB.out HBw.out
          obtain ⟨b1, o1, rfl, _, hc1⟩ := (HL.out.below HBB.out) (by omega)
          have x0 := hc1 k hlt
          obtain ⟨b2, o2, rfl, _, hc2⟩ := (HH.out.below HBB.out) (by omega)
          have y0 := hc2 k hlt
          obtain ⟨b3, o3, rfl, _, hc3⟩ := (HX.out.below HBB.out) (by omega)
          have z0 := hc3 k hlt
          clear hc1 hc2 hc3
          have HS : Hid (hasTo l h v (k + 1) = (decide (l k ≤ v k) && belB (v k) (h k))) := by show _ = _; rw [hasTo, HK.out, Bool.true_and]
          have HFf : Hid ((decide (l k ≤ v k) && belB (v k) (h k)) = false → ve = false) := fun h9 => by rw [HV3.out]; exact hasTo_le (k := k + 1) (by rw [HS.out, h9]) (by omega)
          have HBk := Lib.hid (HBe.out (v k) (h k))
          generalize l k = x at *
          generalize h k = y at *
          generalize v k = z at *
          by_cases g1 : z < x
          · have HR := Lib.hid (HFf.out (by rw [decide_eq_false (by omega)]; rfl))
            go_wp2
            go_ret
            exact ⟨by rw [HR.out]; rfl, HBB.out⟩
          · rw [decide_eq_true (by omega : x ≤ z), Bool.true_and] at HS HFf
            cases hbz : belB z y
            · rw [hbz] at HBk
              have HR := Lib.hid (HFf.out hbz)
              clear hbz
              go_wp2_with fail
              refine (HBk.out _).mono ?_
              rintro e w2 ⟨rfl, rfl⟩
              go_wp2
              go_ret
              exact ⟨by rw [HR.out]; rfl, HBB.out⟩
            · rw [hbz] at HBk HS
              clear hbz
              go_wp2_with fail
              refine (HBk.out _).mono ?_
              rintro e w2 ⟨rfl, rfl⟩
              go_wp2
              go_roundw
              case rel => exact ⟨k + 1, by omega, by go_num, HS.out, HBw.out⟩
              case measure => simp [intOf]; omega
        · obtain rfl : k = p := by omega
          go_wp2
          go_ret
          exact ⟨by rw [HV3.out, HK.out]; rfl, st HB.out HBw.out⟩
    · have HE : Hid (ve = false) := by show _ = _; rw [HV2.out, beq_false_of_ne hpn, Bool.false_and]
      have h5 : ((p : Int) != (n : Int)) = true := by rw [bne_iff_ne]; omega
      clear hpn
      go_wp2
      go_ret
      exact ⟨by rw [HE.out]; rfl, st HB.out HB1.out⟩
end Go.Proofs.YtkckoanphciddaaGreatDoor
end

/- Cells chosen by what is asked of them: how many, and which. -/
section
namespace Go.Proofs.YtkckoanphciddaaGreatDoor
open Go Go.RowKit Go.Deep

/-- How many numbers below k are asked for, and the one at a place. -/
def cntTo (p : Nat → Bool) (k : Nat) : Nat := ((List.range k).filter p).length
def pickI (p : Nat → Bool) (N j : Nat) : Nat := ((List.range N).filter p).getD j 0
theorem filt_succ (p : Nat → Bool) (k : Nat) : (List.range (k + 1)).filter p = (List.range k).filter p ++ (if p k = true then [k] else []) := by
  rw [List.range_succ, List.filter_append]
  cases h : p k <;> simp [h]
theorem cntTo_yes {p : Nat → Bool} {k : Nat} (h : p k = true) : cntTo p (k + 1) = cntTo p k + 1 := by simp [cntTo, filt_succ, h]
theorem cntTo_no {p : Nat → Bool} {k : Nat} (h : p k = false) : cntTo p (k + 1) = cntTo p k := by simp [cntTo, filt_succ, h]
theorem cntTo_le (p : Nat → Bool) (k : Nat) : cntTo p k ≤ k := by
  have := List.length_filter_le p (List.range k)
  simpa [cntTo] using this
theorem cntTo_mono (p : Nat → Bool) {k m : Nat} (h : k ≤ m) : cntTo p k ≤ cntTo p m := by
  induction m with
  | zero => obtain rfl : k = 0 := by omega
            exact Nat.le_refl _
  | succ m ih =>
    by_cases e : k = m + 1
    · rw [e]; exact Nat.le_refl _
    · refine Nat.le_trans (ih (by omega)) ?_
      cases h : p m
      · rw [cntTo_no h]; exact Nat.le_refl _
      · rw [cntTo_yes h]; exact Nat.le_succ _
theorem pickI_at {p : Nat → Bool} {N k : Nat} (hk : k < N) (hp : p k = true) : pickI p N (cntTo p k) = k := by
  induction N with
  | zero => omega
  | succ N ih =>
    unfold pickI
    rw [filt_succ]
    by_cases e : k = N
    · subst e
      simp [hp, cntTo, List.getD_eq_getElem?_getD]
    · have h1 : cntTo p k < cntTo p N := by
        have := cntTo_mono p (show k + 1 ≤ N by omega)
        rw [cntTo_yes hp] at this
        omega
      have h2 := ih (by omega)
      unfold pickI at h2
      rw [List.getD_eq_getElem?_getD] at h2 ⊢
      rw [List.getElem?_append_left (show cntTo p k < ((List.range N).filter p).length from h1)]
      exact h2
theorem pickI_mem {p : Nat → Bool} {N j : Nat} (hj : j < cntTo p N) : pickI p N j < N ∧ p (pickI p N j) = true := by
  have h : pickI p N j ∈ (List.range N).filter p := by
    unfold pickI
    rw [List.getD_eq_getElem?_getD, List.getElem?_eq_getElem (show j < ((List.range N).filter p).length from hj)]
    exact List.getElem_mem _
  rw [List.mem_filter, List.mem_range] at h
  exact h
/-- The cells with the numbers g. -/
def CeD.pick (c : CeD) (g : Nat → Nat) : CeD := ⟨fun k => c.ln (g k), fun k => c.vl (g k), fun k => c.x (g k), fun k => c.vk (g k), fun k => c.vn (g k), fun k => c.vd (g k), fun k => c.vs (g k)⟩
theorem pick_ok {c : CeD} {p : Nat → Bool} {N : Nat} (h : CeOk N c) : CeOk (cntTo p N) (c.pick (pickI p N)) := fun _ hk => h _ (pickI_mem hk).1
/-- Which cells of an array are in a box. -/
def inBox (D : ArD) (nb mb : Nat) (l h : Nat → Int) (k : Nat) : Bool := hasB nb mb (D.c.ln k) l h (D.c.x k)
/-- The error of Cut, and what it returns. -/
noncomputable def cutE (D : ArD) (nb mb : Nat) : Int := if D.check ≠ 0 then 2 else if (formB nb mb && nb == D.n) = true then 0 else 13
noncomputable def cutD (D : ArD) (nb mb : Nat) (l h : Nat → Int) : ArD := if cutE D nb mb = 0 then ⟨D.n, D.nm, D.lo, D.hi, D.m, D.an, D.ty, cntTo (inBox D nb mb l h) D.N, D.c.pick (pickI (inBox D nb mb l h) D.N)⟩ else noAr
end Go.Proofs.YtkckoanphciddaaGreatDoor
end

/- The common part of boxes. -/
section
namespace Go.Proofs.YtkckoanphciddaaGreatDoor
open Go Go.RowKit Go.Deep

def intLo (al bl : Nat → Int) (k : Nat) : Int := max (al k) (bl k)
def intHi (ah bh : Nat → Int) (k : Nat) : Int := min (min (ah k) (bh k)) 1073741825
/-- Is there a common part along the first k dimensions? -/
def intTo (al ah bl bh : Nat → Int) : Nat → Bool
  | 0 => true
  | k + 1 => intTo al ah bl bh k && belB (intLo al bl k) (intHi ah bh k)
theorem intTo_le {al ah bl bh : Nat → Int} {k n : Nat} (hf : intTo al ah bl bh k = false) (hn : k ≤ n) : intTo al ah bl bh n = false := by
  induction n with
  | zero => obtain rfl : k = 0 := by omega
            exact hf
  | succ n ih =>
    by_cases e : k = n + 1
    · rw [← e]; exact hf
    · rw [intTo, ih (by omega)]; rfl
def intB (n m p q : Nat) (al ah bl bh : Nat → Int) : Bool := formB n m && (formB p q && (n == p && intTo al ah bl bh n))
theorem three (w : World) (x y z : Value) (x' y' z' : Value) (W : World) (h : Below (w.heap.size + 3) (((w.alloc (.cells #[x, x'] 66)).alloc (.cells #[y, y'] 66)).alloc (.cells #[z, z'] 66)) W) :
    (W.cell? ⟨w.heap.size, 0, none⟩ = some x ∧ W.cell? ⟨w.heap.size, 1, none⟩ = some x') ∧ (W.cell? ⟨w.heap.size + 1, 0, none⟩ = some y ∧ W.cell? ⟨w.heap.size + 1, 1, none⟩ = some y') ∧ W.heap[w.heap.size + 2]? = some (.cells #[z, z'] 66 (0, 0)) := by
  obtain ⟨q0, q1, q2, _⟩ := al3 w (.cells #[x, x'] 66) (.cells #[y, y'] 66) (.cells #[z, z'] 66)
  have h0 := (h.block w.heap.size (by omega)).trans q0
  have h1 := (h.block (w.heap.size + 1) (by omega)).trans q1
  have h2 := (h.block (w.heap.size + 2) (by omega)).trans q2
  exact ⟨⟨by rw [cell_of_row _ _ _ _ _ _ h0]; rfl, by rw [cell_of_row _ _ _ _ _ _ h0]; rfl⟩, ⟨by rw [cell_of_row _ _ _ _ _ _ h1]; rfl, by rw [cell_of_row _ _ _ _ _ _ h1]; rfl⟩, h2⟩

set_option maxRecDepth 100000 in
set_option maxHeartbeats 4000000 in
theorem s_Inter_bad (w : World) (A1 A2 B1 B2 : Option Addr) (n c m d p e q f : Nat) (hbad : (formB n m && (formB p q && n == p)) = false) :
    Calls Tryz.prog 44 #[BoxW A1 A2 n c m d, BoxW B1 B2 p e q f] w fun e' w' => e' = .returned (.tuple #[BoxW none none 0 0 0 0, .bool false]) ∧ Below w.heap.size w w' := by
  have HT := Lib.hid (three w (.slice A1 n c) (.slice B1 p e) (.slice none 0 0) (.slice A2 m d) (.slice B2 q f) (.slice none 0 0))
  have hz0 : (((w.alloc (.cells #[.slice A1 n c, .slice A2 m d] 66)).alloc (.cells #[.slice B1 p e, .slice B2 q f] 66)).alloc (.cells #[.slice none 0 0, .slice none 0 0] 66)).heap.size = w.heap.size + 3 := by simp
  have HB : Hid (Below w.heap.size w (((w.alloc (.cells #[.slice A1 n c, .slice A2 m d] 66)).alloc (.cells #[.slice B1 p e, .slice B2 q f] 66)).alloc (.cells #[.slice none 0 0, .slice none 0 0] 66))) := (((Below.refl _ _).alloc (Nat.le_refl _) _).alloc (by simp) _).alloc (by simp; omega) _
  have HF1 := Lib.hid (fun W => s_formed W A1 A2 n c m d)
  have HF2 := Lib.hid (fun W => s_formed W B1 B2 p e q f)
  go_enter Tryz.func44, Tryz.ntmps44
  obtain ⟨⟨m0, m1⟩, ⟨m2, m3⟩, -⟩ := HT.out (((w.alloc (.cells #[.slice A1 n c, .slice A2 m d] 66)).alloc (.cells #[.slice B1 p e, .slice B2 q f] 66)).alloc (.cells #[.slice none 0 0, .slice none 0 0] 66)) (Below.refl _ _)
  go_wp2_with fail
  clear m0 m1 m2 m3
  generalize ((w.alloc (.cells #[.slice A1 n c, .slice A2 m d] 66)).alloc (.cells #[.slice B1 p e, .slice B2 q f] 66)).alloc (.cells #[.slice none 0 0, .slice none 0 0] 66) = W0 at *
  refine (HF1.out _).mono ?_
  rintro e1 w1 ⟨rfl, hb1⟩
  rw [hz0] at hb1
  have HB1 : Hid (Below (w.heap.size + 3) W0 w1) := hb1
  have HBw1 : Hid (Below w.heap.size w w1) := Below.trans HB.out (hb1.mono (by omega))
  clear hb1
  obtain ⟨⟨m0, m1⟩, ⟨m2, m3⟩, hres⟩ := HT.out w1 HB1.out
  obtain ⟨r0, r1, z0, z1⟩ := box_at hres
  cases hf1 : formB n m
  · go_wp2
    refine bodyPost_ret (v := .tuple #[BoxW none none 0 0 0 0, .bool false]) (res_cell_tmp Tryz.results44 _ _ (w.heap.size + 2) 66 _ (0, 0) _ rfl (put2 hres _ _) Tryz.underlying66 rfl (by rw [info_box]; rfl)) rfl ?_
    exact ⟨rfl, (HBw1.out.setCell (p := ⟨w.heap.size + 2, 0, none⟩) (by show w.heap.size ≤ w.heap.size + 2; omega) _).setCell (p := ⟨w.heap.size + 2, 1, none⟩) (by show w.heap.size ≤ w.heap.size + 2; omega) _⟩
  · go_wp2_with fail
    refine (HF2.out _).mono ?_
    rintro e2 w2 ⟨rfl, hb2⟩
    have HB2 : Hid (Below (w.heap.size + 3) W0 w2) := HB1.out.trans (hb2.mono (by rw [← hz0]; exact HB1.out.size))
    have HBw2 : Hid (Below w.heap.size w w2) := st HBw1.out hb2
    clear hb2 m0 m1 m2 m3 r0 r1 z0 z1 hres
    obtain ⟨⟨m0, m1⟩, ⟨m2, m3⟩, hres⟩ := HT.out w2 HB2.out
    obtain ⟨r0, r1, z0, z1⟩ := box_at hres
    cases hf2 : formB p q
    · go_wp2
      refine bodyPost_ret (v := .tuple #[BoxW none none 0 0 0 0, .bool false]) (res_cell_tmp Tryz.results44 _ _ (w.heap.size + 2) 66 _ (0, 0) _ rfl (put2 hres _ _) Tryz.underlying66 rfl (by rw [info_box]; rfl)) rfl ?_
      exact ⟨rfl, (HBw2.out.setCell (p := ⟨w.heap.size + 2, 0, none⟩) (by show w.heap.size ≤ w.heap.size + 2; omega) _).setCell (p := ⟨w.heap.size + 2, 1, none⟩) (by show w.heap.size ≤ w.heap.size + 2; omega) _⟩
    · have hnp : n ≠ p := fun h => by rw [hf1, hf2, h, beq_self_eq_true] at hbad; exact absurd hbad (by decide)
      have h5 : ((n : Int) != (p : Int)) = true := by rw [bne_iff_ne]; omega
      clear hnp hbad
      go_wp2
      refine bodyPost_ret (v := .tuple #[BoxW none none 0 0 0 0, .bool false]) (res_cell_tmp Tryz.results44 _ _ (w.heap.size + 2) 66 _ (0, 0) _ rfl (put2 hres _ _) Tryz.underlying66 rfl (by rw [info_box]; rfl)) rfl ?_
      exact ⟨rfl, (HBw2.out.setCell (p := ⟨w.heap.size + 2, 0, none⟩) (by show w.heap.size ≤ w.heap.size + 2; omega) _).setCell (p := ⟨w.heap.size + 2, 1, none⟩) (by show w.heap.size ≤ w.heap.size + 2; omega) _⟩
end Go.Proofs.YtkckoanphciddaaGreatDoor
end

/- A list of integers that grows by append: where it lies. -/
section
namespace Go.Proofs.YtkckoanphciddaaGreatDoor
open Go Go.RowKit Go.Deep

/-- The slice v is the walk's own, from block B on, and holds n numbers. -/
def OwnI (w : World) (B : Nat) (v : Value) (n : Nat) (f : Nat → Int) : Prop := ∃ xs, w.ownsRow B 3 1 v n xs ∧ ∀ k, k < n → xs[k]? = some (.int .i64 (f k))
theorem OwnI.ints {w : World} {B n : Nat} {v : Value} {f : Nat → Int} (h : OwnI w B v n f) : ∃ P c, v = .slice P n c ∧ IntsAt w P n f := by
  obtain ⟨xs, ⟨hl, h1⟩, h2⟩ := h
  rcases h1 with ⟨rfl, rfl⟩ | ⟨g, cap, cur, rfl, _, hh, hcap, _, hs, ht⟩
  · exact ⟨none, 0, rfl, fun h => absurd h (by omega)⟩
  · refine ⟨_, _, rfl, fun hn => ⟨g, 0, rfl, (Array.getElem?_eq_some_iff.1 hh).1, fun k hk => ?_⟩⟩
    rw [Nat.mul_one] at ht
    have h3 : cur.toList[k]? = some (.int .i64 (f k)) := by
      rw [← List.getElem?_take_of_lt hk, ht]
      exact h2 k hk
    rw [Array.getElem?_toList] at h3
    rw [Nat.zero_add]
    simp [World.cell?, hh, h3]
theorem OwnI.nil (w : World) (B : Nat) (f : Nat → Int) : OwnI w B (.slice none 0 0) 0 f := ⟨[], ⟨rfl, .inl ⟨rfl, rfl⟩⟩, fun k hk => absurd hk (by omega)⟩
theorem OwnI.kept {w w' : World} {B n : Nat} {v : Value} {f : Nat → Int} {row : Option Nat} (h : OwnI w B v n f) (hg : w.grownBy w' row) (hne : v.ownBlock = none ∨ v.ownBlock ≠ row) : OwnI w' B v n f := by
  obtain ⟨xs, h1, h2⟩ := h
  exact ⟨xs, h1.kept hg hne, h2⟩
theorem OwnI.block {w : World} {B n : Nat} {v : Value} {f : Nat → Int} (h : OwnI w B v n f) {g : Nat} (hg : v.ownBlock = some g) : B ≤ g ∧ g < w.heap.size := by
  obtain ⟨xs, h1, _⟩ := h
  obtain ⟨a, cs, b⟩ := own_lt h1 g hg
  exact ⟨a, (Array.getElem?_eq_some_iff.1 b).1⟩
/-- One number more, behind a literal of one number: the list lies where it lay, or in a new block. -/
theorem wpList_appI {ops : Array Oper} {rest : List Oper} {o : Oper} {a : Act} {Q : Exit → Act → World → Prop} (hgd : o.guard = none) (s x : Operand)
    (ho : o.op = .call { callee := .builtin .append, args := #[s, x], argTypes := #[35, 35] })
    (W : World) (d : Int) (B : Nat) (v : Value) (n : Nat) (f : Nat → Int) (hs : a.eval s = v) (b : Nat) (hx : a.eval x = .slice (some ⟨b, 0, none⟩) 1 1) (hbW : b = W.heap.size)
    (hown : OwnI W B v n f) (hn : n ≤ 1000000) (hB : B ≤ W.heap.size)
    (h : ∀ v' w', OwnI w' B v' (n + 1) (updZ f n d) → W.grownBy w' v.ownBlock → (v'.ownBlock = v.ownBlock ∨ ∃ g, v'.ownBlock = some g ∧ W.heap.size ≤ g) → wpList Tryz.prog ops Q rest (a.put o.dst v') w') : wpList Tryz.prog ops Q (o :: rest) a (W.alloc (.cells #[.int .i64 d] 3)) := by
  subst hbW
  obtain ⟨xs, h1, h2⟩ := hown
  have h1' : (W.alloc (.cells #[.int .i64 d] 3)).ownsRow B 3 1 v n xs := h1.alloc _
  obtain ⟨i0, hi0, hz0, hz1, hz2⟩ := info_parts info_int
  have hnew : ∀ j u, [Value.int .i64 d][j]? = some u → (W.alloc (.cells #[.int .i64 d] 3)).cell? ((⟨W.heap.size, 0, none⟩ : Addr).add j) = some u := by
    intro j u hu
    have hj : j = 0 := by
      rcases j with _ | j
      · rfl
      · simp at hu
    subst hj
    have hu' : u = .int .i64 d := by simpa using hu.symm
    subst hu'
    exact (World.rowIs_alloc W #[.int .i64 d] 3 (fun _ => .int .i64 d) (fun i hi => by
      have h9 : i = 0 := by simpa using hi
      subst h9
      rfl)).cell (i := 0) (by simp)
  refine wpList_append_own_at _ hgd s x 35 ho B 3 i0 (.int .i64 0) 1 8 Tryz.underlying35 hi0 hz0 hz1 hz2 rfl Nat.zero_lt_one v n xs hs h1' ⟨W.heap.size, 0, none⟩ 1 1 [.int .i64 d] hx rfl hnew
    (fun u hu => by have h9 : u = .int .i64 d := by simpa using hu
                    subst h9; rfl) (by unfold maxLen; omega) (by omega) (by simp; omega) ?_
  intro v' w' g1 g2 _ g4
  refine h v' w' ⟨xs ++ [.int .i64 d], g1, fun k hk => ?_⟩ ((World.grownBy_alloc W _ _).trans g2) (g4.imp id fun h9 => ⟨_, h9, by simp⟩)
  have hl : xs.length = n := by rw [h1.1, Nat.mul_one]
  unfold updZ
  by_cases e : k = n
  · subst e
    rw [if_pos rfl, List.getElem?_append_right (by omega), hl, Nat.sub_self]
    rfl
  · rw [if_neg e, List.getElem?_append_left (by omega)]
    exact h2 k (by omega)
end Go.Proofs.YtkckoanphciddaaGreatDoor
end

/- The least and the greatest of cells' coordinates; a list of integers that is the walk's own is written in place. -/
section
namespace Go.Proofs.YtkckoanphciddaaGreatDoor
open Go Go.RowKit Go.Deep

def hLo (x : Nat → Nat → Int) : Nat → Nat → Int
  | 0, j => x 0 j
  | k + 1, j => min (hLo x k j) (x k j)
def hHi (x : Nat → Nat → Int) : Nat → Nat → Int
  | 0, j => x 0 j
  | k + 1, j => max (hHi x k j) (x k j)
theorem hLo_le {x : Nat → Nat → Int} {N k : Nat} (hk : k < N) (j : Nat) : hLo x N j ≤ x k j := by
  induction N with
  | zero => omega
  | succ N ih =>
    show min (hLo x N j) (x N j) ≤ x k j
    by_cases e : k = N
    · subst e; omega
    · have := ih (by omega); omega
theorem hHi_ge {x : Nat → Nat → Int} {N k : Nat} (hk : k < N) (j : Nat) : x k j ≤ hHi x N j := by
  induction N with
  | zero => omega
  | succ N ih =>
    show x k j ≤ max (hHi x N j) (x N j)
    by_cases e : k = N
    · subst e; omega
    · have := ih (by omega); omega
theorem OwnI.put {w : World} {B n : Nat} {v : Value} {f : Nat → Int} (h : OwnI w B v n f) (hn : 0 < n) : ∃ g cap, v = .slice (some ⟨g, 0, none⟩) n cap ∧ B ≤ g ∧ g < w.heap.size ∧ (∀ k, k < n → w.cell? ⟨g, k, none⟩ = some (.int .i64 (f k))) ∧ (∀ k, w.frozen? ⟨g, k, none⟩ = false) ∧ ∀ k y, k < n → OwnI (w.setCell ⟨g, k, none⟩ (.int .i64 y)) B v n (updZ f k y) := by
  obtain ⟨xs, ⟨hl, h1⟩, h2⟩ := h
  rcases h1 with ⟨rfl, rfl⟩ | ⟨g, cap, cur, rfl, hBg, hh, hnc, hcm, hsz, ht⟩
  · omega
  · have get : ∀ k, k < n → cur[k]? = some (.int .i64 (f k)) := fun k hk => by
      have h3 : cur.toList[k]? = some (.int .i64 (f k)) := by
        rw [← List.getElem?_take_of_lt (show k < n * 1 by omega), ht]
        exact h2 k hk
      rw [Array.getElem?_toList] at h3
      exact h3
    refine ⟨g, cap, rfl, hBg, (Array.getElem?_eq_some_iff.1 hh).1, fun k hk => by simp [World.cell?, hh, get k hk], fun k => by simp [World.frozen?, hh], fun k y hk => ⟨xs.set k (.int .i64 y), ⟨by rw [List.length_set]; exact hl, .inr ⟨g, cap, cur.set! k (.int .i64 y), rfl, hBg, ?_, hnc, hcm, by simpa using hsz, ?_⟩⟩, fun j hj => ?_⟩⟩
    · simp [World.setCell, Array.getElem?_modify, hh]
    · rw [Array.set!_eq_setIfInBounds, Array.toList_setIfInBounds, List.take_set, ht]
    · unfold updZ
      by_cases e : j = k
      · subst e
        rw [List.getElem?_set_self (by omega), if_pos rfl]
      · rw [List.getElem?_set_ne (by omega), if_neg e]
        exact h2 j hj
end Go.Proofs.YtkckoanphciddaaGreatDoor
end

/- What an array without an error is like. -/
section
namespace Go.Proofs.YtkckoanphciddaaGreatDoor
open Go Go.RowKit Go.Deep

theorem check_sch {D : ArD} (h : D.check = 0) : schE D.nm D.lo D.hi D.n D.an D.ty D.m = 0 ∧ D.N ≤ 4096 := by
  unfold ArD.check checkE manyE at h
  by_cases h1 : schE D.nm D.lo D.hi D.n D.an D.ty D.m = 0
  · refine ⟨h1, ?_⟩
    by_cases h2 : 4096 < D.N
    · simp [h1, h2] at h
    · omega
  · simp [h1] at h
theorem check_cells {D : ArD} (h : D.check = 0) {k : Nat} (hk : k < D.N) : cellsE D.lo D.hi D.n D.ty D.m D.c.ln D.c.vl D.c.x D.c.vk D.c.vn D.c.vd D.c.vs k = 0 := by
  have h0 := check_sch h
  unfold ArD.check checkE at h
  have hm : manyE D.nm D.lo D.hi D.n D.an D.ty D.m D.N = 0 := by
    unfold manyE
    rw [if_neg (by rw [h0.1]; decide), if_neg (by omega)]
  rw [if_neg (by rw [hm]; decide)] at h
  have hk0 : cellsTo D.lo D.hi D.n D.ty D.m D.c.ln D.c.vl D.c.x D.c.vk D.c.vn D.c.vd D.c.vs (k + 1) = 0 := Decidable.byContradiction fun hne => hne ((cellsTo_le hne (show k + 1 ≤ D.N by omega)).symm.trans h)
  have hk1 : cellsTo D.lo D.hi D.n D.ty D.m D.c.ln D.c.vl D.c.x D.c.vk D.c.vn D.c.vd D.c.vs k = 0 := Decidable.byContradiction fun hne => hne ((cellsTo_le hne (show k ≤ D.N by omega)).symm.trans h)
  rw [cellsTo, if_pos hk1] at hk0
  exact hk0
theorem check_cell {D : ArD} (h : D.check = 0) {k : Nat} (hk : k < D.N) : cellE D.lo D.hi D.n D.ty D.m (D.c.x k) (D.c.ln k) (D.c.vk k) (D.c.vn k) (D.c.vd k) (D.c.vs k) (D.c.vl k) = 0 := by
  have h1 := check_cells h hk
  unfold cellsE at h1
  split at h1
  · assumption
  · rename_i h2
    exact Decidable.not_not.1 h2
theorem check_ln {D : ArD} (h : D.check = 0) {k : Nat} (hk : k < D.N) : D.c.ln k = D.n := by
  have h1 := check_cell h hk
  unfold cellE at h1
  split at h1
  · exact absurd h1 (by decide)
  · rename_i h2
    omega
theorem check_n {D : ArD} (h : D.check = 0) : 1 ≤ D.n ∧ D.n ≤ 4 := by
  have h1 := (check_sch h).1
  have h2 : dimsZ D.nm D.lo D.hi D.n = 0 := Decidable.byContradiction fun hne => by
    unfold schE at h1
    simp [hne] at h1
  exact ⟨(dimsZ_ok h2).1, (dimsZ_ok h2).2.1⟩
end Go.Proofs.YtkckoanphciddaaGreatDoor
end

/- Cells that ascend; what is chosen of them ascends too, and has no error. -/
section
namespace Go.Proofs.YtkckoanphciddaaGreatDoor
open Go Go.RowKit Go.Deep

def lexLt (n : Nat) (f g : Nat → Int) : Prop := ∃ m, m < n ∧ (∀ l, l < m → f l = g l) ∧ f m < g m
theorem lexLt_trans {n : Nat} {f g h : Nat → Int} (h1 : lexLt n f g) (h2 : lexLt n g h) : lexLt n f h := by
  obtain ⟨a, a1, a2, a3⟩ := h1
  obtain ⟨b, b1, b2, b3⟩ := h2
  rcases Nat.lt_trichotomy a b with e | e | e
  · exact ⟨a, a1, fun l hl => (a2 l hl).trans (b2 l (by omega)), by rw [← b2 a e]; exact a3⟩
  · subst e
    exact ⟨a, a1, fun l hl => (a2 l hl).trans (b2 l hl), Int.lt_trans a3 b3⟩
  · exact ⟨b, b1, fun l hl => (a2 l (by omega)).trans (b2 l hl), by rw [a2 b e]; exact b3⟩
theorem lexLt_ne {n : Nat} {f g : Nat → Int} (h1 : lexLt n f g) : ¬ ∀ l, l < n → f l = g l := fun h => by
  obtain ⟨a, a1, a2, a3⟩ := h1
  have := h a a1
  omega
theorem cmpI_cases (a b : Int) : (Lib.compareInt a b = -1 ∧ a < b) ∨ (Lib.compareInt a b = 0 ∧ a = b) ∨ (Lib.compareInt a b = 1 ∧ b < a) := by
  unfold Lib.compareInt
  split
  · exact .inl ⟨rfl, by omega⟩
  · split
    · exact .inr (.inr ⟨rfl, by omega⟩)
    · exact .inr (.inl ⟨rfl, by omega⟩)
theorem cmpTo_cases {f g : Nat → Int} {m : Nat} : ∀ {k : Nat}, k ≤ m → (cmpTo f g m k = -1 ∧ lexLt k f g) ∨ (cmpTo f g m k = 0 ∧ ∀ l, l < k → f l = g l) ∨ (cmpTo f g m k = 1 ∧ lexLt k g f)
  | 0, _ => .inr (.inl ⟨rfl, fun l hl => absurd hl (Nat.not_lt_zero l)⟩)
  | k + 1, hk => by
    rcases cmpTo_cases (f := f) (g := g) (m := m) (k := k) (by omega) with ⟨h1, a, h2, h3⟩ | ⟨h1, h2⟩ | ⟨h1, a, h2, h3⟩
    · exact .inl ⟨by rw [cmpTo, if_neg (by rw [h1]; decide), h1], a, by omega, h3⟩
    · rw [cmpTo, if_pos h1, if_neg (by omega)]
      rcases cmpI_cases (f k) (g k) with ⟨e1, e2⟩ | ⟨e1, e2⟩ | ⟨e1, e2⟩
      · exact .inl ⟨e1, k, Nat.lt_succ_self k, h2, e2⟩
      · refine .inr (.inl ⟨e1, fun l hl => ?_⟩)
        by_cases e : l = k
        · rw [e]; exact e2
        · exact h2 l (by omega)
      · exact .inr (.inr ⟨e1, k, Nat.lt_succ_self k, fun l hl => (h2 l hl).symm, e2⟩)
    · exact .inr (.inr ⟨by rw [cmpTo, if_neg (by rw [h1]; decide), h1], a, by omega, h3⟩)
theorem cmpS_cases (n : Nat) (f g : Nat → Int) : (cmpS n n f g = -1 ∧ lexLt n f g) ∨ (cmpS n n f g = 0 ∧ ∀ l, l < n → f l = g l) ∨ (cmpS n n f g = 1 ∧ lexLt n g f) := by
  unfold cmpS
  rcases cmpTo_cases (f := f) (g := g) (Nat.le_refl n) with ⟨h1, h2⟩ | ⟨h1, h2⟩ | ⟨h1, h2⟩
  · exact .inl ⟨by rw [if_neg (by rw [h1]; decide), h1], h2⟩
  · exact .inr (.inl ⟨by rw [if_pos h1, if_neg (Nat.lt_irrefl n)], h2⟩)
  · exact .inr (.inr ⟨by rw [if_neg (by rw [h1]; decide), h1], h2⟩)
theorem lex_cmp {n : Nat} {f g : Nat → Int} (h : lexLt n f g) : cmpS n n f g = -1 := by
  rcases cmpS_cases n f g with ⟨h1, _⟩ | ⟨_, h2⟩ | ⟨_, h2⟩
  · exact h1
  · exact absurd h2 (lexLt_ne h)
  · exact absurd (fun l _ => rfl) (lexLt_ne (lexLt_trans h h2))
theorem check_asc1 {D : ArD} (h : D.check = 0) {k : Nat} (hk : k + 1 < D.N) : lexLt D.n (D.c.x k) (D.c.x (k + 1)) := by
  have h1 := check_cells h hk
  have h2 := check_cell h hk
  unfold cellsE at h1
  rw [if_neg (by rw [h2]; decide), if_neg (by omega), check_ln h hk, show k + 1 - 1 = k from rfl, check_ln h (show k < D.N by omega)] at h1
  rcases cmpS_cases D.n (D.c.x k) (D.c.x (k + 1)) with ⟨_, h3⟩ | ⟨h3, _⟩ | ⟨h3, _⟩
  · exact h3
  · rw [h3] at h1; exact absurd h1 (by decide)
  · rw [h3] at h1; exact absurd h1 (by decide)
theorem check_asc {D : ArD} (h : D.check = 0) {i j : Nat} (hij : i < j) (hj : j < D.N) : lexLt D.n (D.c.x i) (D.c.x j) := by
  induction j with
  | zero => omega
  | succ j ih =>
    by_cases e : i = j
    · rw [e]; exact check_asc1 h hj
    · exact lexLt_trans (ih (by omega) (by omega)) (check_asc1 h hj)
theorem check_inj {D : ArD} (h : D.check = 0) {i j : Nat} (hi : i < D.N) (hj : j < D.N) (he : ∀ l, l < D.n → D.c.x i l = D.c.x j l) : i = j := by
  rcases Nat.lt_trichotomy i j with e | e | e
  · exact absurd he (lexLt_ne (check_asc h e hj))
  · exact e
  · exact absurd (fun l hl => (he l hl).symm) (lexLt_ne (check_asc h e hi))
theorem pickI_asc {p : Nat → Bool} {N i j : Nat} (hij : i < j) (hj : j < cntTo p N) : pickI p N i < pickI p N j := by
  have hp : ((List.range N).filter p).Pairwise (· < ·) := List.pairwise_lt_range.filter p
  have hl : j < ((List.range N).filter p).length := hj
  unfold pickI
  rw [List.getD_eq_getElem?_getD, List.getD_eq_getElem?_getD, List.getElem?_eq_getElem hl, List.getElem?_eq_getElem (Nat.lt_trans hij hl)]
  exact List.pairwise_iff_getElem.1 hp i j (Nat.lt_trans hij hl) hl hij
theorem check_of {D : ArD} (h1 : schE D.nm D.lo D.hi D.n D.an D.ty D.m = 0) (h2 : D.N ≤ 4096) (h3 : ∀ k, k < D.N → cellsE D.lo D.hi D.n D.ty D.m D.c.ln D.c.vl D.c.x D.c.vk D.c.vn D.c.vd D.c.vs k = 0) : D.check = 0 := by
  unfold ArD.check checkE
  have hm : manyE D.nm D.lo D.hi D.n D.an D.ty D.m D.N = 0 := by
    unfold manyE
    rw [if_neg (by rw [h1]; decide), if_neg (by omega)]
  rw [if_neg (by rw [hm]; decide)]
  have key : ∀ k, k ≤ D.N → cellsTo D.lo D.hi D.n D.ty D.m D.c.ln D.c.vl D.c.x D.c.vk D.c.vn D.c.vd D.c.vs k = 0 := by
    intro k
    induction k with
    | zero => intro _; rfl
    | succ k ih => intro hk; rw [cellsTo, if_pos (ih (by omega))]; exact h3 k (by omega)
  exact key D.N (Nat.le_refl _)
/-- What is chosen of an array without an error has none. -/
theorem check_pick {D : ArD} (h : D.check = 0) (p : Nat → Bool) : (⟨D.n, D.nm, D.lo, D.hi, D.m, D.an, D.ty, cntTo p D.N, D.c.pick (pickI p D.N)⟩ : ArD).check = 0 := by
  have h0 := check_sch h
  refine check_of h0.1 (Nat.le_trans (cntTo_le p D.N) h0.2) fun k hk => ?_
  have hk1 := (pickI_mem hk).1
  have h2 := check_cell h hk1
  show cellsE D.lo D.hi D.n D.ty D.m (fun k => D.c.ln (pickI p D.N k)) (fun k => D.c.vl (pickI p D.N k)) (fun k => D.c.x (pickI p D.N k)) (fun k => D.c.vk (pickI p D.N k)) (fun k => D.c.vn (pickI p D.N k)) (fun k => D.c.vd (pickI p D.N k)) (fun k => D.c.vs (pickI p D.N k)) k = 0
  unfold cellsE
  rw [if_neg (by rw [h2]; decide)]
  by_cases e : k = 0
  · rw [if_pos e]
  · rw [if_neg e]
    have hk0 := (pickI_mem (show k - 1 < cntTo p D.N by have : k < cntTo p D.N := hk; omega)).1
    show ordE (cmpS (D.c.ln (pickI p D.N (k - 1))) (D.c.ln (pickI p D.N k)) (D.c.x (pickI p D.N (k - 1))) (D.c.x (pickI p D.N k))) = 0
    rw [check_ln h hk0, check_ln h hk1, lex_cmp (check_asc h (pickI_asc (show k - 1 < k by omega) hk) hk1)]
    decide
/-- Where all are chosen, what is chosen is the whole. -/
theorem cntTo_all {p : Nat → Bool} {N : Nat} (h : ∀ k, k < N → p k = true) : cntTo p N = N := by
  induction N with
  | zero => rfl
  | succ N ih => rw [cntTo_yes (h N (Nat.lt_succ_self N)), ih fun k hk => h k (by omega)]
theorem pickI_all {p : Nat → Bool} {N k : Nat} (h : ∀ k, k < N → p k = true) (hk : k < N) : pickI p N k = k := by
  have h1 := pickI_at (p := p) hk (h k hk)
  rwa [cntTo_all fun j hj => h j (by omega)] at h1
theorem cntTo_none {p : Nat → Bool} {N : Nat} (h : ∀ k, k < N → p k = false) : cntTo p N = 0 := by
  induction N with
  | zero => rfl
  | succ N ih => rw [cntTo_no (h N (Nat.lt_succ_self N)), ih fun k hk => h k (by omega)]
theorem cntTo_one {p : Nat → Bool} {N i : Nat} (hi : i < N) (h1 : p i = true) (h : ∀ k, k < N → p k = true → k = i) : cntTo p N = 1 ∧ pickI p N 0 = i := by
  have hz : cntTo p i = 0 := cntTo_none fun k hk => by
    cases e : p k
    · rfl
    · have := h k (by omega) e; omega
  have h2 := pickI_at hi h1
  rw [hz] at h2
  refine ⟨?_, h2⟩
  have key : ∀ M, i < M → M ≤ N → cntTo p M = 1 := by
    intro M
    induction M with
    | zero => intro h; omega
    | succ M ih =>
      intro h3 h4
      by_cases e : i = M
      · subst e; rw [cntTo_yes h1, hz]
      · rw [cntTo_no (by cases e2 : p M
                         · rfl
                         · exact absurd (h M (by omega) e2).symm e), ih (by omega) (by omega)]
  exact key N hi (Nat.le_refl _)
end Go.Proofs.YtkckoanphciddaaGreatDoor
end
