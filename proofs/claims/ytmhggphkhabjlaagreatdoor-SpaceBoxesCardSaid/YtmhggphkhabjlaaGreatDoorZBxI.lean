/- From the row's condition to the walk: a box. -/
import Derived.Test.YtmhggphkhabjlaaGreatDoorZOpA
import Derived.Test.YtmhggphkhabjlaaGreatDoorZCmpS
import Derived.Test.YtmhggphkhabjlaaGreatDoorZOrdE
import Derived.Test.YtmhggphkhabjlaaGreatDoorZSpH
import Derived.StillTailTactics

/- From the row's condition to the walk: a box. -/
section
namespace Go.Proofs.YtmhggphkhabjlaaGreatDoor
open Go Go.ChangeShapes Go.WideShapes Go.ChangeAt Go.RowKit

theorem box_fields : ∃ f0 f1 : Field, Tryz.prog.underlying 41 = some (.struct #[f0, f1]) ∧ f0.type = 32 ∧ f0.offset = 0 ∧ f1.type = 32 ∧ f1.offset = 1 :=
  ⟨_, _, Tryz.underlying41, rfl, rfl, rfl, rfl⟩
section
variable {H : Type} {enc : TypeId × Value → H} {w : World} {base : Nat} {spare : Nat → Bool} {held : Bool}
theorem open_ints1 {fuel : Nat} {c0 : Value} {x : DataW H × List MemPlace} (h : DataW.trod enc Tryz.prog w base spare held fuel 32 [c0] = some x) :
    ∃ (A : Option Addr) (n cap : Nat) (xs : Nat → Int), c0 = .slice A n cap ∧ IntsAt w A n xs ∧ n ≤ 9223372036854775807 := by
  have h' := h
  have c1 : Tryz.prog.cellsOf 3 = 1 := by kernel_rfl
  rcases open_ints Tryz.underlying32 Tryz.underlying3 c1 h with ⟨hcs, _⟩ | ⟨a, len, cap', zs, hcs, _⟩
  · obtain rfl : c0 = .slice none 0 0 := by simpa using hcs
    obtain ⟨xs, h1, h2, _⟩ := open_intsAt h'
    exact ⟨_, _, _, xs, rfl, h1, h2⟩
  · obtain rfl : c0 = .slice (some a) len cap' := by simpa using hcs
    obtain ⟨xs, h1, h2, _⟩ := open_intsAt h'
    exact ⟨_, _, _, xs, rfl, h1, h2⟩
set_option maxRecDepth 100000 in
theorem open_boxA {r : Reach} {b0 : Nat} {v : Value} {dt : DataW H} {ps : List MemPlace} (hval : Value.okWide Tryz.prog w r b0 41 v) (hd : DataW.Trod enc Tryz.prog w base spare held 41 v dt ps) :
    ∃ (A B : Option Addr) (n c m d : Nat) (l h : Nat → Int), v = BoxW A B n c m d ∧ IntsAt w A n l ∧ IntsAt w B m h := by
  obtain ⟨f0, f1, hu, t0, o0, t1, o1⟩ := box_fields
  obtain ⟨cs, rfl, hsz⟩ := okWide_struct hu hval
  have c2 : Tryz.prog.cellsOf 41 = 2 := by kernel_rfl
  have ci : Tryz.prog.cellsOf 32 = 1 := by kernel_rfl
  rw [c2] at hsz
  obtain ⟨fuel, hf⟩ := hd
  obtain ⟨l⟩ := cs
  match l, hsz with
  | [c0, c1], _ =>
    have hf' : DataW.trod enc Tryz.prog w base spare held fuel 41 [c0, c1] = some (dt, ps) := hf
    obtain ⟨xs, n, _, _, _, hlen, hfl⟩ := DataW.trod_struct hu hf'
    have l0 : 0 < xs.length := by rw [hlen]; simp
    have l1 : 1 < xs.length := by rw [hlen]; simp
    have q0 := hfl 0 f0 rfl
    have q1 := hfl 1 f1 rfl
    rw [t0, o0, ci, List.getElem?_eq_getElem l0] at q0
    rw [t1, o1, ci, List.getElem?_eq_getElem l1] at q1
    have q0' : DataW.trod enc Tryz.prog w base spare held n 32 [c0] = some xs[0] := by simpa using q0
    have q1' : DataW.trod enc Tryz.prog w base spare held n 32 [c1] = some xs[1] := by simpa using q1
    obtain ⟨A, n0, k0, x0, rfl, i0, _⟩ := open_ints1 q0'
    obtain ⟨B, n1, k1, x1, rfl, i1, _⟩ := open_ints1 q1'
    exact ⟨A, B, n0, k0, n1, k1, x0, x1, rfl, i0, i1⟩
end
end Go.Proofs.YtmhggphkhabjlaaGreatDoor
end

/- Boxes: what is in them; the reference's too. -/
section
namespace Go.Proofs.YtmhggphkhabjlaaGreatDoor
open Go Go.RowKit Go.Deep

def belB (x hi : Int) : Bool := decide (x ≤ hi) || decide (1073741825 ≤ hi)
theorem s_below (x hi : Int) (w : World) : Calls Tryz.prog 59 #[.int .i64 x, .int .i64 hi] w fun e w' => e = .returned (.bool (belB x hi)) ∧ w' = w := by
  have HE : Hid (belB x hi = (decide (x ≤ hi) || decide (1073741825 ≤ hi))) := rfl
  go_enter Tryz.func59, Tryz.ntmps59
  by_cases g1 : x ≤ hi
  · rw [decide_eq_true g1] at HE
    go_wp2
    go_ret
    exact ⟨by rw [HE.out]; rfl, rfl⟩
  · rw [decide_eq_false g1] at HE
    by_cases g2 : hi ≥ 1073741825
    · have g3 : (1073741825 : Int) ≤ hi := g2
      rw [decide_eq_true g3] at HE
      go_wp2
      go_ret
      exact ⟨by rw [HE.out]; rfl, rfl⟩
    · have g3 : ¬ (1073741825 : Int) ≤ hi := g2
      rw [decide_eq_false g3] at HE
      go_wp2
      go_ret
      exact ⟨by rw [HE.out]; rfl, rfl⟩
theorem r_below (x hi : Int) (w : World) : Calls Tryz.prog 61 #[.int .i64 x, .int .i64 hi] w fun e w' => e = .returned (.bool (belB x hi)) ∧ w' = w := by
  have HE : Hid (belB x hi = (decide (x ≤ hi) || decide (1073741825 ≤ hi))) := rfl
  go_enter Tryz.func61, Tryz.ntmps61
  by_cases g2 : hi ≥ 1073741825
  · have g3 : (1073741825 : Int) ≤ hi := g2
    rw [decide_eq_true g3, Bool.or_true] at HE
    go_wp2
    go_ret
    exact ⟨by rw [HE.out]; rfl, rfl⟩
  · have g3 : ¬ (1073741825 : Int) ≤ hi := g2
    rw [decide_eq_false g3, Bool.or_false] at HE
    by_cases g1 : x ≤ hi
    · rw [decide_eq_true g1] at HE
      go_wp2
      go_ret
      exact ⟨by rw [HE.out]; rfl, rfl⟩
    · rw [decide_eq_false g1] at HE
      go_wp2
      go_ret
      exact ⟨by rw [HE.out]; rfl, rfl⟩
theorem r_Formed (w : World) (L H : Option Addr) (n c m d : Nat) : Calls Tryz.prog 60 #[BoxW L H n c m d] w fun e w' => e = .returned (.bool (n == m && (decide (1 ≤ n) && decide (n ≤ 4)))) ∧ w' = w.alloc (.cells #[.slice L n c, .slice H m d] 41) := by
  obtain ⟨l0, l1⟩ := box_two w (.slice L n c) (.slice H m d) 41 _ (Below.refl _ _)
  have hnm : ((n : Int) == (m : Int)) = (n == m) := by rw [Bool.eq_iff_iff, beq_iff_eq, beq_iff_eq]; omega
  have h1 : decide ((1 : Int) ≤ (n : Int)) = decide (1 ≤ n) := by rw [decide_eq_decide]; omega
  have h4 : decide ((n : Int) ≤ 4) = decide (n ≤ 4) := by rw [decide_eq_decide]; omega
  go_enter Tryz.func60, Tryz.ntmps60
  cases hb : n == m
  · rw [hb] at hnm
    go_wp2
    go_ret
    exact ⟨rfl, rfl⟩
  · rw [hb] at hnm
    by_cases g1 : 1 ≤ n
    · rw [decide_eq_true g1] at h1 ⊢
      go_wp2
      go_ret
      exact ⟨rfl, rfl⟩
    · rw [decide_eq_false g1] at h1 ⊢
      go_wp2
      go_ret
      exact ⟨rfl, rfl⟩
def formB (n m : Nat) : Bool := n == m && (decide (1 ≤ n) && decide (n ≤ 4))
theorem formB_ok {n m : Nat} (h : formB n m = true) : n = m ∧ 1 ≤ n ∧ n ≤ 4 := by
  simpa [formB, and_assoc] using h
theorem s_formed (w : World) (L H : Option Addr) (n c m d : Nat) : Calls Tryz.prog 58 #[BoxW L H n c m d] w fun e w' => e = .returned (.bool (formB n m)) ∧ Below w.heap.size w w' :=
  (s_wellFormed w L H n c m d).mono fun e w' h => ⟨h.1, by rw [h.2]; exact (Below.refl _ _).alloc (Nat.le_refl _) _⟩
theorem r_formed (w : World) (L H : Option Addr) (n c m d : Nat) : Calls Tryz.prog 60 #[BoxW L H n c m d] w fun e w' => e = .returned (.bool (formB n m)) ∧ Below w.heap.size w w' :=
  (r_Formed w L H n c m d).mono fun e w' h => ⟨h.1, by rw [h.2]; exact (Below.refl _ _).alloc (Nat.le_refl _) _⟩
/-- Are the first k coordinates in the box? -/
def hasTo (l h v : Nat → Int) : Nat → Bool
  | 0 => true
  | k + 1 => hasTo l h v k && (decide (l k ≤ v k) && belB (v k) (h k))
theorem hasTo_le {l h v : Nat → Int} {k n : Nat} (hf : hasTo l h v k = false) (hn : k ≤ n) : hasTo l h v n = false := by
  induction n with
  | zero => obtain rfl : k = 0 := by omega
            exact hf
  | succ n ih =>
    by_cases e : k = n + 1
    · rw [← e]; exact hf
    · rw [hasTo, ih (by omega)]; rfl
def hasB (n m p : Nat) (l h v : Nat → Int) : Bool := formB n m && (p == n && hasTo l h v n)
set_option maxRecDepth 100000 in
set_option maxHeartbeats 4000000 in
theorem s_Has (w : World) (L H X : Option Addr) (n c m d p e : Nat) (l h v : Nat → Int) (hl : IntsAt w L n l) (hh : IntsAt w H m h) (hx : IntsAt w X p v) (hp : p ≤ 1000) (hn1 : n ≤ 1000) :
    Calls Tryz.prog 26 #[BoxW L H n c m d, .slice X p e] w fun e w' => e = .returned (.bool (hasB n m p l h v)) ∧ Below w.heap.size w w' := by
  have KB := Lib.hid (box_two w (.slice L n c) (.slice H m d) 41)
  have HB : Hid (Below w.heap.size w (w.alloc (.cells #[.slice L n c, .slice H m d] 41))) := (Below.refl _ _).alloc (Nat.le_refl _) _
  have HF := Lib.hid (s_formed (w.alloc (.cells #[.slice L n c, .slice H m d] 41)) L H n c m d)
  have HL := Lib.hid hl
  have HH := Lib.hid hh
  have HX := Lib.hid hx
  have HBe := Lib.hid s_below
  obtain ⟨ve, hve⟩ : ∃ ve, hasB n m p l h v = ve := ⟨_, rfl⟩
  rw [hve]
  have HV : Hid (ve = (formB n m && (p == n && hasTo l h v n))) := hve.symm
  clear hl hh hx hve
  go_enter Tryz.func26, Tryz.ntmps26
  obtain ⟨m0, m1⟩ := KB.out _ (Below.refl _ _)
  go_wp2_with fail
  clear m0 m1
  generalize w.alloc (.cells #[.slice L n c, .slice H m d] 41) = W0 at *
  refine HF.out.mono ?_
  rintro e w1 ⟨rfl, hb1⟩
  have HB1 := Lib.hid hb1
  clear hb1 HF
  obtain ⟨m0, m1⟩ := KB.out w1 HB1.out
  cases hf : formB n m
  · have HE : Hid (ve = false) := by show _ = _; rw [HV.out, hf]; rfl
    go_wp2
    go_ret
    exact ⟨by rw [HE.out]; rfl, st HB.out HB1.out⟩
  · obtain ⟨rfl, h1, h4⟩ := formB_ok hf
    have HV2 : Hid (ve = (p == n && hasTo l h v n)) := by show _ = _; rw [HV.out, hf, Bool.true_and]
    clear hf HV
    by_cases hpn : p = n
    · subst hpn
      have HV3 : Hid (ve = hasTo l h v p) := by show _ = _; rw [HV2.out, beq_self_eq_true, Bool.true_and]
      clear HV2
      go_wp2
      clear m0 m1
      go_loopw [5, 6, 20] (fun _ _ i wr => ∃ k : Nat, k ≤ p ∧ i = .int .i64 k ∧ Hid (hasTo l h v k = true) ∧ Hid (Below W0.heap.size W0 wr)) (fun _ _ i _ => p - (intOf i).toNat)
      case atStart => exact ⟨0, Nat.zero_le _, rfl, rfl, HB1.out⟩
      case round =>
        obtain ⟨k, hk, rfl, HK, HBw⟩ := hrel
        by_cases hlt : k < p
        · obtain ⟨m0, m1⟩ := KB.out wr HBw.out
          have HBB : Hid (Below w.heap.size w wr) := st HB.out HBw.out
          obtain ⟨b1, o1, rfl, _, hc1⟩ := (HL.out.below HBB.out) (by omega)
          have x0 := hc1 k hlt
          obtain ⟨b2, o2, rfl, _, hc2⟩ := (HH.out.below HBB.out) (by omega)
          have y0 := hc2 k hlt
          obtain ⟨b3, o3, rfl, _, hc3⟩ := (HX.out.below HBB.out) (by omega)
          have z0 := hc3 k hlt
          clear hc1 hc2 hc3
          have HS : Hid (hasTo l h v (k + 1) = (decide (l k ≤ v k) && belB (v k) (h k))) := by show _ = _; rw [hasTo, HK.out, Bool.true_and]
          have HFf : Hid ((decide (l k ≤ v k) && belB (v k) (h k)) = false → ve = false) := fun h9 => by rw [HV3.out]; exact hasTo_le (k := k + 1) (by rw [HS.out, h9]) (by omega)
          have HBk := Lib.hid (HBe.out (v k) (h k))
          generalize l k = x at *
          generalize h k = y at *
          generalize v k = z at *
          by_cases g1 : z < x
          · have HR := Lib.hid (HFf.out (by rw [decide_eq_false (by omega)]; rfl))
            go_wp2
            go_ret
            exact ⟨by rw [HR.out]; rfl, HBB.out⟩
          · rw [decide_eq_true (by omega : x ≤ z), Bool.true_and] at HS HFf
            cases hbz : belB z y
            · rw [hbz] at HBk
              have HR := Lib.hid (HFf.out hbz)
              clear hbz
              go_wp2_with fail
              refine (HBk.out _).mono ?_
              rintro e w2 ⟨rfl, rfl⟩
              go_wp2
              go_ret
              exact ⟨by rw [HR.out]; rfl, HBB.out⟩
            · rw [hbz] at HBk HS
              clear hbz
              go_wp2_with fail
              refine (HBk.out _).mono ?_
              rintro e w2 ⟨rfl, rfl⟩
              go_wp2
              go_roundw
              case rel => exact ⟨k + 1, by omega, by go_num, HS.out, HBw.out⟩
              case measure => simp [intOf]; omega
        · obtain rfl : k = p := by omega
          go_wp2
          go_ret
          exact ⟨by rw [HV3.out, HK.out]; rfl, st HB.out HBw.out⟩
    · have HE : Hid (ve = false) := by show _ = _; rw [HV2.out, beq_false_of_ne hpn, Bool.false_and]
      have h5 : ((p : Int) != (n : Int)) = true := by rw [bne_iff_ne]; omega
      clear hpn
      go_wp2
      go_ret
      exact ⟨by rw [HE.out]; rfl, st HB.out HB1.out⟩
end Go.Proofs.YtmhggphkhabjlaaGreatDoor
end

/- The common part of boxes. -/
section
namespace Go.Proofs.YtmhggphkhabjlaaGreatDoor
open Go Go.RowKit Go.Deep

def intLo (al bl : Nat → Int) (k : Nat) : Int := max (al k) (bl k)
def intHi (ah bh : Nat → Int) (k : Nat) : Int := min (min (ah k) (bh k)) 1073741825
/-- Is there a common part along the first k dimensions? -/
def intTo (al ah bl bh : Nat → Int) : Nat → Bool
  | 0 => true
  | k + 1 => intTo al ah bl bh k && belB (intLo al bl k) (intHi ah bh k)
theorem intTo_le {al ah bl bh : Nat → Int} {k n : Nat} (hf : intTo al ah bl bh k = false) (hn : k ≤ n) : intTo al ah bl bh n = false := by
  induction n with
  | zero => obtain rfl : k = 0 := by omega
            exact hf
  | succ n ih =>
    by_cases e : k = n + 1
    · rw [← e]; exact hf
    · rw [intTo, ih (by omega)]; rfl
def intB (n m p q : Nat) (al ah bl bh : Nat → Int) : Bool := formB n m && (formB p q && (n == p && intTo al ah bl bh n))
theorem three (w : World) (x y z : Value) (x' y' z' : Value) (W : World) (h : Below (w.heap.size + 3) (((w.alloc (.cells #[x, x'] 41)).alloc (.cells #[y, y'] 41)).alloc (.cells #[z, z'] 41)) W) :
    (W.cell? ⟨w.heap.size, 0, none⟩ = some x ∧ W.cell? ⟨w.heap.size, 1, none⟩ = some x') ∧ (W.cell? ⟨w.heap.size + 1, 0, none⟩ = some y ∧ W.cell? ⟨w.heap.size + 1, 1, none⟩ = some y') ∧ W.heap[w.heap.size + 2]? = some (.cells #[z, z'] 41 (0, 0)) := by
  obtain ⟨q0, q1, q2, _⟩ := al3 w (.cells #[x, x'] 41) (.cells #[y, y'] 41) (.cells #[z, z'] 41)
  have h0 := (h.block w.heap.size (by omega)).trans q0
  have h1 := (h.block (w.heap.size + 1) (by omega)).trans q1
  have h2 := (h.block (w.heap.size + 2) (by omega)).trans q2
  exact ⟨⟨by rw [cell_of_row _ _ _ _ _ _ h0]; rfl, by rw [cell_of_row _ _ _ _ _ _ h0]; rfl⟩, ⟨by rw [cell_of_row _ _ _ _ _ _ h1]; rfl, by rw [cell_of_row _ _ _ _ _ _ h1]; rfl⟩, h2⟩

set_option maxRecDepth 100000 in
set_option maxHeartbeats 4000000 in
theorem s_Inter_bad (w : World) (A1 A2 B1 B2 : Option Addr) (n c m d p e q f : Nat) (hbad : (formB n m && (formB p q && n == p)) = false) :
    Calls Tryz.prog 23 #[BoxW A1 A2 n c m d, BoxW B1 B2 p e q f] w fun e' w' => e' = .returned (.tuple #[BoxW none none 0 0 0 0, .bool false]) ∧ Below w.heap.size w w' := by
  have HT := Lib.hid (three w (.slice A1 n c) (.slice B1 p e) (.slice none 0 0) (.slice A2 m d) (.slice B2 q f) (.slice none 0 0))
  have hz0 : (((w.alloc (.cells #[.slice A1 n c, .slice A2 m d] 41)).alloc (.cells #[.slice B1 p e, .slice B2 q f] 41)).alloc (.cells #[.slice none 0 0, .slice none 0 0] 41)).heap.size = w.heap.size + 3 := by simp
  have HB : Hid (Below w.heap.size w (((w.alloc (.cells #[.slice A1 n c, .slice A2 m d] 41)).alloc (.cells #[.slice B1 p e, .slice B2 q f] 41)).alloc (.cells #[.slice none 0 0, .slice none 0 0] 41))) := (((Below.refl _ _).alloc (Nat.le_refl _) _).alloc (by simp) _).alloc (by simp; omega) _
  have HF1 := Lib.hid (fun W => s_formed W A1 A2 n c m d)
  have HF2 := Lib.hid (fun W => s_formed W B1 B2 p e q f)
  go_enter Tryz.func23, Tryz.ntmps23
  obtain ⟨⟨m0, m1⟩, ⟨m2, m3⟩, -⟩ := HT.out (((w.alloc (.cells #[.slice A1 n c, .slice A2 m d] 41)).alloc (.cells #[.slice B1 p e, .slice B2 q f] 41)).alloc (.cells #[.slice none 0 0, .slice none 0 0] 41)) (Below.refl _ _)
  go_wp2_with fail
  clear m0 m1 m2 m3
  generalize ((w.alloc (.cells #[.slice A1 n c, .slice A2 m d] 41)).alloc (.cells #[.slice B1 p e, .slice B2 q f] 41)).alloc (.cells #[.slice none 0 0, .slice none 0 0] 41) = W0 at *
  refine (HF1.out _).mono ?_
  rintro e1 w1 ⟨rfl, hb1⟩
  rw [hz0] at hb1
  have HB1 : Hid (Below (w.heap.size + 3) W0 w1) := hb1
  have HBw1 : Hid (Below w.heap.size w w1) := Below.trans HB.out (hb1.mono (by omega))
  clear hb1
  obtain ⟨⟨m0, m1⟩, ⟨m2, m3⟩, hres⟩ := HT.out w1 HB1.out
  obtain ⟨r0, r1, z0, z1⟩ := box_at hres
  cases hf1 : formB n m
  · go_wp2
    refine bodyPost_ret (v := .tuple #[BoxW none none 0 0 0 0, .bool false]) (res_cell_tmp Tryz.results23 _ _ (w.heap.size + 2) 41 _ (0, 0) _ rfl (put2 hres _ _) Tryz.underlying41 rfl (by rw [info_box]; rfl)) rfl ?_
    exact ⟨rfl, (HBw1.out.setCell (p := ⟨w.heap.size + 2, 0, none⟩) (by show w.heap.size ≤ w.heap.size + 2; omega) _).setCell (p := ⟨w.heap.size + 2, 1, none⟩) (by show w.heap.size ≤ w.heap.size + 2; omega) _⟩
  · go_wp2_with fail
    refine (HF2.out _).mono ?_
    rintro e2 w2 ⟨rfl, hb2⟩
    have HB2 : Hid (Below (w.heap.size + 3) W0 w2) := HB1.out.trans (hb2.mono (by rw [← hz0]; exact HB1.out.size))
    have HBw2 : Hid (Below w.heap.size w w2) := st HBw1.out hb2
    clear hb2 m0 m1 m2 m3 r0 r1 z0 z1 hres
    obtain ⟨⟨m0, m1⟩, ⟨m2, m3⟩, hres⟩ := HT.out w2 HB2.out
    obtain ⟨r0, r1, z0, z1⟩ := box_at hres
    cases hf2 : formB p q
    · go_wp2
      refine bodyPost_ret (v := .tuple #[BoxW none none 0 0 0 0, .bool false]) (res_cell_tmp Tryz.results23 _ _ (w.heap.size + 2) 41 _ (0, 0) _ rfl (put2 hres _ _) Tryz.underlying41 rfl (by rw [info_box]; rfl)) rfl ?_
      exact ⟨rfl, (HBw2.out.setCell (p := ⟨w.heap.size + 2, 0, none⟩) (by show w.heap.size ≤ w.heap.size + 2; omega) _).setCell (p := ⟨w.heap.size + 2, 1, none⟩) (by show w.heap.size ≤ w.heap.size + 2; omega) _⟩
    · have hnp : n ≠ p := fun h => by rw [hf1, hf2, h, beq_self_eq_true] at hbad; exact absurd hbad (by decide)
      have h5 : ((n : Int) != (p : Int)) = true := by rw [bne_iff_ne]; omega
      clear hnp hbad
      go_wp2
      refine bodyPost_ret (v := .tuple #[BoxW none none 0 0 0 0, .bool false]) (res_cell_tmp Tryz.results23 _ _ (w.heap.size + 2) 41 _ (0, 0) _ rfl (put2 hres _ _) Tryz.underlying41 rfl (by rw [info_box]; rfl)) rfl ?_
      exact ⟨rfl, (HBw2.out.setCell (p := ⟨w.heap.size + 2, 0, none⟩) (by show w.heap.size ≤ w.heap.size + 2; omega) _).setCell (p := ⟨w.heap.size + 2, 1, none⟩) (by show w.heap.size ≤ w.heap.size + 2; omega) _⟩
end Go.Proofs.YtmhggphkhabjlaaGreatDoor
end
