/- From the row's condition to the walk: databases. -/
import Derived.Test.YtoippldgoehpcaaGreatDoorZRgT
import Derived.Test.YtoippldgoehpcaaGreatDoorZAppC
import Derived.Test.YtoippldgoehpcaaGreatDoorZRfD
import Derived.Test.YtoippldgoehpcaaGreatDoorZSeq
import Derived.Test.YtoippldgoehpcaaGreatDoorZCmpS
import Derived.Test.YtoippldgoehpcaaGreatDoorZSpH
import Derived.Test.YtoippldgoehpcaaGreatDoorZRfO
import Derived.Laws.AppendOwnNone

/- From the row's condition to the walk: databases. -/
section
namespace Go.Proofs.YtoippldgoehpcaaGreatDoor
open Go Go.ChangeShapes Go.WideShapes Go.ChangeAt Go.RowKit

/-- A database lies in the slice at A. -/
def DbR (w : World) (A : Option Addr) (N : Nat) (nm : Nat → ByteArray) (P : Nat → ArP) (D : Nat → ArD) : Prop :=
  0 < N → ∃ b o, A = some ⟨b, o, none⟩ ∧ b < w.heap.size ∧ ∀ k, k < N → (w.cell? ⟨b, o + k * 4, none⟩ = some (.string (nm k)) ∧ w.cell? ⟨b, o + k * 4 + 1, none⟩ = some (.slice (P k).A (D k).n (P k).cap) ∧ w.cell? ⟨b, o + k * 4 + 2, none⟩ = some (.slice (P k).B (D k).m (P k).bcap) ∧ w.cell? ⟨b, o + k * 4 + 3, none⟩ = some (.slice (P k).C (D k).N (P k).ccap)) ∧ ArR w (P k) (D k)
theorem DbR.below {w w' : World} {A : Option Addr} {N : Nat} {nm : Nat → ByteArray} {P : Nat → ArP} {D : Nat → ArD} (h : DbR w A N nm P D) (hb : Below w.heap.size w w') : DbR w' A N nm P D := fun hn => by
  obtain ⟨b, o, h1, h2, h3⟩ := h hn
  refine ⟨b, o, h1, Nat.lt_of_lt_of_le h2 hb.size, fun k hk => ?_⟩
  obtain ⟨⟨a1, a2, a3, a4⟩, a5⟩ := h3 k hk
  exact ⟨⟨(hb.cell (p := ⟨b, o + k * 4, none⟩) h2).trans a1, (hb.cell (p := ⟨b, o + k * 4 + 1, none⟩) h2).trans a2, (hb.cell (p := ⟨b, o + k * 4 + 2, none⟩) h2).trans a3, (hb.cell (p := ⟨b, o + k * 4 + 3, none⟩) h2).trans a4⟩, a5.below hb⟩
section
variable {H : Type} {enc : TypeId × Value → H} {w : World} {base : Nat} {spare : Nat → Bool} {held : Bool}
end
/-- A database of sizes that can be walked through. -/
structure DbAt (w : World) (A : Option Addr) (N : Nat) (nm : Nat → ByteArray) (P : Nat → ArP) (D : Nat → ArD) : Prop where
  at_ : 0 < N → ∃ b o, A = some ⟨b, o, none⟩ ∧ b < w.heap.size ∧ ∀ k, k < N → (w.cell? ⟨b, o + k * 4, none⟩ = some (.string (nm k)) ∧ w.cell? ⟨b, o + k * 4 + 1, none⟩ = some (.slice (P k).A (D k).n (P k).cap) ∧ w.cell? ⟨b, o + k * 4 + 2, none⟩ = some (.slice (P k).B (D k).m (P k).bcap) ∧ w.cell? ⟨b, o + k * 4 + 3, none⟩ = some (.slice (P k).C (D k).N (P k).ccap)) ∧ ArAt w (P k) (D k)
theorem DbAt.below {w w' : World} {A : Option Addr} {N : Nat} {nm : Nat → ByteArray} {P : Nat → ArP} {D : Nat → ArD} (h : DbAt w A N nm P D) (hb : Below w.heap.size w w') : DbAt w' A N nm P D := ⟨fun hn => by
  obtain ⟨b, o, h1, h2, h3⟩ := h.at_ hn
  refine ⟨b, o, h1, Nat.lt_of_lt_of_le h2 hb.size, fun k hk => ?_⟩
  obtain ⟨⟨a1, a2, a3, a4⟩, a5⟩ := h3 k hk
  exact ⟨⟨(hb.cell (p := ⟨b, o + k * 4, none⟩) h2).trans a1, (hb.cell (p := ⟨b, o + k * 4 + 1, none⟩) h2).trans a2, (hb.cell (p := ⟨b, o + k * 4 + 2, none⟩) h2).trans a3, (hb.cell (p := ⟨b, o + k * 4 + 3, none⟩) h2).trans a4⟩, a5.below hb⟩⟩
def DbOk (N : Nat) (nm : Nat → ByteArray) (D : Nat → ArD) : Prop := ∀ k, k < N → (nm k).size ≤ 9223372036854775807 ∧ ArOk (D k)
theorem DbR.ok {w : World} {A : Option Addr} {N : Nat} {nm : Nat → ByteArray} {P : Nat → ArP} {D : Nat → ArD} {most : Int} (h : DbR w A N nm P D) (hs : ∀ k, k < N → (nm k).size ≤ 9223372036854775807) (hf : ∀ k, k < N → FewD (D k) most) (hm : most ≤ 1000000) : DbAt w A N nm P D ∧ DbOk N nm D := by
  refine ⟨⟨fun hn => ?_⟩, fun k hk => ⟨hs k hk, ?_⟩⟩
  · obtain ⟨b, o, h1, h2, h3⟩ := h hn
    exact ⟨b, o, h1, h2, fun k hk => ⟨(h3 k hk).1, ((h3 k hk).2.ok (hf k hk) hm).1⟩⟩
  · obtain ⟨b, o, h1, h2, h3⟩ := h (by omega)
    exact ((h3 k hk).2.ok (hf k hk) hm).2
end Go.Proofs.YtoippldgoehpcaaGreatDoor
end

/- The error of a database. -/
section
namespace Go.Proofs.YtoippldgoehpcaaGreatDoor
open Go Go.RowKit Go.Deep

end Go.Proofs.YtoippldgoehpcaaGreatDoor
end

/- The array with a name. -/
section
namespace Go.Proofs.YtoippldgoehpcaaGreatDoor
open Go Go.RowKit Go.Deep

/-- The array without anything. -/
def noAr : ArD := ⟨0, fun _ => ⟨#[]⟩, fun _ => 0, fun _ => 0, 0, fun _ => ⟨#[]⟩, fun _ => 0, 0, ⟨fun _ => 0, fun _ => 0, fun _ _ => 0, fun _ _ => 0, fun _ _ => 0, fun _ _ => 0, fun _ _ => ⟨#[]⟩⟩⟩
theorem noAr_at (w : World) : ArAt w ⟨none, 0, none, 0, none, 0⟩ noAr := ⟨fun h => absurd h (Nat.lt_irrefl 0), fun h => absurd h (Nat.lt_irrefl 0), fun h => absurd h (Nat.lt_irrefl 0)⟩
theorem ArUp.grown {W W' : World} {B b : Nat} {p : ArP} {D : ArD} (h : ArUp W B p D) (hg : W.grownBy W' (some b)) (hb : b < B) : ArUp W' B p D := ⟨(h.dims.row.grown hg (h.upA.ne hb)).dims, (h.attrs.row.grown hg (h.upB.ne hb)).attrs, h.cells.grown hg hb, h.upA, h.upB⟩
end Go.Proofs.YtoippldgoehpcaaGreatDoor
end

/- Boxes: what is in them; the reference's too. -/
section
namespace Go.Proofs.YtoippldgoehpcaaGreatDoor
open Go Go.RowKit Go.Deep

def belB (x hi : Int) : Bool := decide (x ≤ hi) || decide (1073741825 ≤ hi)
theorem s_below (x hi : Int) (w : World) : Calls Tryz.prog 121 #[.int .i64 x, .int .i64 hi] w fun e w' => e = .returned (.bool (belB x hi)) ∧ w' = w := by
  have HE : Hid (belB x hi = (decide (x ≤ hi) || decide (1073741825 ≤ hi))) := rfl
  go_enter Tryz.func121, Tryz.ntmps121
  by_cases g1 : x ≤ hi
  · rw [decide_eq_true g1] at HE
    go_wp2
    go_ret
    exact ⟨by rw [HE.out]; rfl, rfl⟩
  · rw [decide_eq_false g1] at HE
    by_cases g2 : hi ≥ 1073741825
    · have g3 : (1073741825 : Int) ≤ hi := g2
      rw [decide_eq_true g3] at HE
      go_wp2
      go_ret
      exact ⟨by rw [HE.out]; rfl, rfl⟩
    · have g3 : ¬ (1073741825 : Int) ≤ hi := g2
      rw [decide_eq_false g3] at HE
      go_wp2
      go_ret
      exact ⟨by rw [HE.out]; rfl, rfl⟩
theorem r_below (x hi : Int) (w : World) : Calls Tryz.prog 146 #[.int .i64 x, .int .i64 hi] w fun e w' => e = .returned (.bool (belB x hi)) ∧ w' = w := by
  have HE : Hid (belB x hi = (decide (x ≤ hi) || decide (1073741825 ≤ hi))) := rfl
  go_enter Tryz.func146, Tryz.ntmps146
  by_cases g2 : hi ≥ 1073741825
  · have g3 : (1073741825 : Int) ≤ hi := g2
    rw [decide_eq_true g3, Bool.or_true] at HE
    go_wp2
    go_ret
    exact ⟨by rw [HE.out]; rfl, rfl⟩
  · have g3 : ¬ (1073741825 : Int) ≤ hi := g2
    rw [decide_eq_false g3, Bool.or_false] at HE
    by_cases g1 : x ≤ hi
    · rw [decide_eq_true g1] at HE
      go_wp2
      go_ret
      exact ⟨by rw [HE.out]; rfl, rfl⟩
    · rw [decide_eq_false g1] at HE
      go_wp2
      go_ret
      exact ⟨by rw [HE.out]; rfl, rfl⟩
theorem r_Formed (w : World) (L H : Option Addr) (n c m d : Nat) : Calls Tryz.prog 100 #[BoxW L H n c m d] w fun e w' => e = .returned (.bool (n == m && (decide (1 ≤ n) && decide (n ≤ 4)))) ∧ w' = w.alloc (.cells #[.slice L n c, .slice H m d] 66) := by
  obtain ⟨l0, l1⟩ := box_two w (.slice L n c) (.slice H m d) 66 _ (Below.refl _ _)
  have hnm : ((n : Int) == (m : Int)) = (n == m) := by rw [Bool.eq_iff_iff, beq_iff_eq, beq_iff_eq]; omega
  have h1 : decide ((1 : Int) ≤ (n : Int)) = decide (1 ≤ n) := by rw [decide_eq_decide]; omega
  have h4 : decide ((n : Int) ≤ 4) = decide (n ≤ 4) := by rw [decide_eq_decide]; omega
  go_enter Tryz.func100, Tryz.ntmps100
  cases hb : n == m
  · rw [hb] at hnm
    go_wp2
    go_ret
    exact ⟨rfl, rfl⟩
  · rw [hb] at hnm
    by_cases g1 : 1 ≤ n
    · rw [decide_eq_true g1] at h1 ⊢
      go_wp2
      go_ret
      exact ⟨rfl, rfl⟩
    · rw [decide_eq_false g1] at h1 ⊢
      go_wp2
      go_ret
      exact ⟨rfl, rfl⟩
def formB (n m : Nat) : Bool := n == m && (decide (1 ≤ n) && decide (n ≤ 4))
theorem formB_ok {n m : Nat} (h : formB n m = true) : n = m ∧ 1 ≤ n ∧ n ≤ 4 := by
  simpa [formB, and_assoc] using h
theorem s_formed (w : World) (L H : Option Addr) (n c m d : Nat) : Calls Tryz.prog 98 #[BoxW L H n c m d] w fun e w' => e = .returned (.bool (formB n m)) ∧ Below w.heap.size w w' :=
  (s_wellFormed w L H n c m d).mono fun e w' h => ⟨h.1, by rw [h.2]; exact (Below.refl _ _).alloc (Nat.le_refl _) _⟩
theorem r_formed (w : World) (L H : Option Addr) (n c m d : Nat) : Calls Tryz.prog 100 #[BoxW L H n c m d] w fun e w' => e = .returned (.bool (formB n m)) ∧ Below w.heap.size w w' :=
  (r_Formed w L H n c m d).mono fun e w' h => ⟨h.1, by rw [h.2]; exact (Below.refl _ _).alloc (Nat.le_refl _) _⟩
/-- Are the first k coordinates in the box? -/
def hasTo (l h v : Nat → Int) : Nat → Bool
  | 0 => true
  | k + 1 => hasTo l h v k && (decide (l k ≤ v k) && belB (v k) (h k))
theorem hasTo_le {l h v : Nat → Int} {k n : Nat} (hf : hasTo l h v k = false) (hn : k ≤ n) : hasTo l h v n = false := by
  induction n with
  | zero => obtain rfl : k = 0 := by omega
            exact hf
  | succ n ih =>
    by_cases e : k = n + 1
    · rw [← e]; exact hf
    · rw [hasTo, ih (by omega)]; rfl
def hasB (n m p : Nat) (l h v : Nat → Int) : Bool := formB n m && (p == n && hasTo l h v n)
set_option maxRecDepth 100000 in
set_option maxHeartbeats 4000000 in
theorem s_Has (w : World) (L H X : Option Addr) (n c m d p e : Nat) (l h v : Nat → Int) (hl : IntsAt w L n l) (hh : IntsAt w H m h) (hx : IntsAt w X p v) (hp : p ≤ 1000) (hn1 : n ≤ 1000) :
    Calls Tryz.prog 99 #[BoxW L H n c m d, .slice X p e] w fun e w' => e = .returned (.bool (hasB n m p l h v)) ∧ Below w.heap.size w w' := by
  have KB := Lib.hid (box_two w (.slice L n c) (.slice H m d) 66)
  have HB : Hid (Below w.heap.size w (w.alloc (.cells #[.slice L n c, .slice H m d] 66))) := (Below.refl _ _).alloc (Nat.le_refl _) _
  have HF := Lib.hid (s_formed (w.alloc (.cells #[.slice L n c, .slice H m d] 66)) L H n c m d)
  have HL := Lib.hid hl
  have HH := Lib.hid hh
  have HX := Lib.hid hx
  have HBe := Lib.hid s_below
  obtain ⟨ve, hve⟩ : ∃ ve, hasB n m p l h v = ve := ⟨_, rfl⟩
  rw [hve]
  have HV : Hid (ve = (formB n m && (p == n && hasTo l h v n))) := hve.symm
  clear hl hh hx hve
  go_enter Tryz.func99, Tryz.ntmps99
  obtain ⟨m0, m1⟩ := KB.out _ (Below.refl _ _)
  go_wp2_with fail
  clear m0 m1
  generalize w.alloc (.cells #[.slice L n c, .slice H m d] 66) = W0 at *
  refine HF.out.mono ?_
  rintro e w1 ⟨rfl, hb1⟩
  have HB1 := Lib.hid hb1
  clear hb1 HF
  obtain ⟨m0, m1⟩ := KB.out w1 HB1.out
  cases hf : formB n m
  · have HE : Hid (ve = false) := by show _ = _; rw [HV.out, hf]; rfl
    go_wp2
    go_ret
    exact ⟨by rw [HE.out]; rfl, st HB.out HB1.out⟩
  · obtain ⟨rfl, h1, h4⟩ := formB_ok hf
    have HV2 : Hid (ve = (p == n && hasTo l h v n)) := by show _ = _; rw [HV.out, hf, Bool.true_and]
    clear hf HV
    by_cases hpn : p = n
    · subst hpn
      have HV3 : Hid (ve = hasTo l h v p) := by show _ = _; rw [HV2.out, beq_self_eq_true, Bool.true_and]
      clear HV2
      go_wp2
      clear m0 m1
      go_loopw [5, 6, 20] (fun _ _ i wr => ∃ k : Nat, k ≤ p ∧ i = .int .i64 k ∧ Hid (hasTo l h v k = true) ∧ Hid (Below W0.heap.size W0 wr)) (fun _ _ i _ => p - (intOf i).toNat)
      case atStart => exact ⟨0, Nat.zero_le _, rfl, rfl, HB1.out⟩
      case round =>
        obtain ⟨k, hk, rfl, HK, HBw⟩ := hrel
        by_cases hlt : k < p
        · obtain ⟨m0, m1⟩ := KB.out wr HBw.out
          have HBB : Hid (Below w.heap.size w wr) := st HB.out HBw.out
          obtain ⟨b1, o1, rfl, _, hc1⟩ := (HL.out.below HBB.out) (by omega)
          have x0 := hc1 k hlt
          obtain ⟨b2, o2, rfl, _, hc2⟩ := (HH.out.below HBB.out) (by omega)
          have y0 := hc2 k hlt
          obtain ⟨b3, o3, rfl, _, hc3⟩ := (HX.out.below HBB.out) (by omega)
          have z0 := hc3 k hlt
          clear hc1 hc2 hc3
          have HS : Hid (hasTo l h v (k + 1) = (decide (l k ≤ v k) && belB (v k) (h k))) := by show _ = _; rw [hasTo, HK.out, Bool.true_and]
          have HFf : Hid ((decide (l k ≤ v k) && belB (v k) (h k)) = false → ve = false) := fun h9 => by rw [HV3.out]; exact hasTo_le (k := k + 1) (by rw [HS.out, h9]) (by omega)
          have HBk := Lib.hid (HBe.out (v k) (h k))
          generalize l k = x at *
          generalize h k = y at *
          generalize v k = z at *
          by_cases g1 : z < x
          · have HR := Lib.hid (HFf.out (by rw [decide_eq_false (by omega)]; rfl))
            go_wp2
            go_ret
            exact ⟨by rw [HR.out]; rfl, HBB.out⟩
          · rw [decide_eq_true (by omega : x ≤ z), Bool.true_and] at HS HFf
            cases hbz : belB z y
            · rw [hbz] at HBk
              have HR := Lib.hid (HFf.out hbz)
              clear hbz
              go_wp2_with fail
              refine (HBk.out _).mono ?_
              rintro e w2 ⟨rfl, rfl⟩
              go_wp2
              go_ret
              exact ⟨by rw [HR.out]; rfl, HBB.out⟩
            · rw [hbz] at HBk HS
              clear hbz
              go_wp2_with fail
              refine (HBk.out _).mono ?_
              rintro e w2 ⟨rfl, rfl⟩
              go_wp2
              go_roundw
              case rel => exact ⟨k + 1, by omega, by go_num, HS.out, HBw.out⟩
              case measure => simp [intOf]; omega
        · obtain rfl : k = p := by omega
          go_wp2
          go_ret
          exact ⟨by rw [HV3.out, HK.out]; rfl, st HB.out HBw.out⟩
    · have HE : Hid (ve = false) := by show _ = _; rw [HV2.out, beq_false_of_ne hpn, Bool.false_and]
      have h5 : ((p : Int) != (n : Int)) = true := by rw [bne_iff_ne]; omega
      clear hpn
      go_wp2
      go_ret
      exact ⟨by rw [HE.out]; rfl, st HB.out HB1.out⟩
end Go.Proofs.YtoippldgoehpcaaGreatDoor
end

/- Cells chosen by what is asked of them: how many, and which. -/
section
namespace Go.Proofs.YtoippldgoehpcaaGreatDoor
open Go Go.RowKit Go.Deep

/-- How many numbers below k are asked for, and the one at a place. -/
def cntTo (p : Nat → Bool) (k : Nat) : Nat := ((List.range k).filter p).length
def pickI (p : Nat → Bool) (N j : Nat) : Nat := ((List.range N).filter p).getD j 0
theorem filt_succ (p : Nat → Bool) (k : Nat) : (List.range (k + 1)).filter p = (List.range k).filter p ++ (if p k = true then [k] else []) := by
  rw [List.range_succ, List.filter_append]
  cases h : p k <;> simp [h]
theorem cntTo_yes {p : Nat → Bool} {k : Nat} (h : p k = true) : cntTo p (k + 1) = cntTo p k + 1 := by simp [cntTo, filt_succ, h]
theorem cntTo_no {p : Nat → Bool} {k : Nat} (h : p k = false) : cntTo p (k + 1) = cntTo p k := by simp [cntTo, filt_succ, h]
theorem cntTo_le (p : Nat → Bool) (k : Nat) : cntTo p k ≤ k := by
  have := List.length_filter_le p (List.range k)
  simpa [cntTo] using this
theorem cntTo_mono (p : Nat → Bool) {k m : Nat} (h : k ≤ m) : cntTo p k ≤ cntTo p m := by
  induction m with
  | zero => obtain rfl : k = 0 := by omega
            exact Nat.le_refl _
  | succ m ih =>
    by_cases e : k = m + 1
    · rw [e]; exact Nat.le_refl _
    · refine Nat.le_trans (ih (by omega)) ?_
      cases h : p m
      · rw [cntTo_no h]; exact Nat.le_refl _
      · rw [cntTo_yes h]; exact Nat.le_succ _
theorem pickI_at {p : Nat → Bool} {N k : Nat} (hk : k < N) (hp : p k = true) : pickI p N (cntTo p k) = k := by
  induction N with
  | zero => omega
  | succ N ih =>
    unfold pickI
    rw [filt_succ]
    by_cases e : k = N
    · subst e
      simp [hp, cntTo, List.getD_eq_getElem?_getD]
    · have h1 : cntTo p k < cntTo p N := by
        have := cntTo_mono p (show k + 1 ≤ N by omega)
        rw [cntTo_yes hp] at this
        omega
      have h2 := ih (by omega)
      unfold pickI at h2
      rw [List.getD_eq_getElem?_getD] at h2 ⊢
      rw [List.getElem?_append_left (show cntTo p k < ((List.range N).filter p).length from h1)]
      exact h2
theorem pickI_mem {p : Nat → Bool} {N j : Nat} (hj : j < cntTo p N) : pickI p N j < N ∧ p (pickI p N j) = true := by
  have h : pickI p N j ∈ (List.range N).filter p := by
    unfold pickI
    rw [List.getD_eq_getElem?_getD, List.getElem?_eq_getElem (show j < ((List.range N).filter p).length from hj)]
    exact List.getElem_mem _
  rw [List.mem_filter, List.mem_range] at h
  exact h
/-- The cells with the numbers g. -/
def CeD.pick (c : CeD) (g : Nat → Nat) : CeD := ⟨fun k => c.ln (g k), fun k => c.vl (g k), fun k => c.x (g k), fun k => c.vk (g k), fun k => c.vn (g k), fun k => c.vd (g k), fun k => c.vs (g k)⟩
theorem pick_ok {c : CeD} {p : Nat → Bool} {N : Nat} (h : CeOk N c) : CeOk (cntTo p N) (c.pick (pickI p N)) := fun _ hk => h _ (pickI_mem hk).1
/-- Which cells of an array are in a box. -/
def inBox (D : ArD) (nb mb : Nat) (l h : Nat → Int) (k : Nat) : Bool := hasB nb mb (D.c.ln k) l h (D.c.x k)
/-- The error of Cut, and what it returns. -/
noncomputable def cutE (D : ArD) (nb mb : Nat) : Int := if D.check ≠ 0 then 2 else if (formB nb mb && nb == D.n) = true then 0 else 13
noncomputable def cutD (D : ArD) (nb mb : Nat) (l h : Nat → Int) : ArD := if cutE D nb mb = 0 then ⟨D.n, D.nm, D.lo, D.hi, D.m, D.an, D.ty, cntTo (inBox D nb mb l h) D.N, D.c.pick (pickI (inBox D nb mb l h) D.N)⟩ else noAr
end Go.Proofs.YtoippldgoehpcaaGreatDoor
end

/- A cell found by its coordinates: the reference. -/
section
namespace Go.Proofs.YtoippldgoehpcaaGreatDoor
open Go Go.RowKit Go.Deep

end Go.Proofs.YtoippldgoehpcaaGreatDoor
end

/- A whole slice appended, nil or not. -/
section
namespace Go.Proofs.YtoippldgoehpcaaGreatDoor
open Go Go.RowKit Go.Deep Go.Shelf

theorem run_app_none {P : Program} {w : World} (base : Nat) (t ty e : TypeId) (i : TypeInfo) (size : Nat) (ht : P.underlying t = some (.slice e)) (hi : P.info? e = some i)
    (v : Value) (n c : Nat) (xs : List Value) (hown : w.ownsRow base e size v n xs) :
    (Builtin.append_ #[t, t] ty #[v, .slice none 0 c]).run P w = .ok v w := by
  rcases hown.2 with ⟨rfl, rfl⟩ | ⟨g, cap, cur, rfl, _, _, hnc, _⟩
  · simp [Builtin.append_, run_underlying ht, sizeOf, typeInfo, hi, Builtin.lenOf, Builtin.firstCells]
  · simp [Builtin.append_, run_underlying ht, sizeOf, typeInfo, hi, Builtin.lenOf, Builtin.firstCells, hnc, storeCells]
end Go.Proofs.YtoippldgoehpcaaGreatDoor
end

/- A cell's values by its coordinates: the reference. -/
section
namespace Go.Proofs.YtoippldgoehpcaaGreatDoor
open Go Go.RowKit Go.Deep Go.Shelf

theorem info_val : (Tryz.prog.info? 43).map (fun i => (i.zero, i.size, i.bytes)) = some (some (.agg #[.int .i64 0, .int .i64 0, .int .i64 0, .string ⟨#[]⟩]), 4, 40) := by kernel_rfl
end Go.Proofs.YtoippldgoehpcaaGreatDoor
end
