/- SpaceBoxes: whatever the boxes and the coordinates, Inter and Has return what the document's own account returns: the law returns true. Its row lists package-level variables, tied to the program's text by the card. -/
import Derived.Test.YtmhggphkhabjlaaGreatDoorZBxI
import Derived.Test.YtmhggphkhabjlaaGreatDoorZBxR
import Derived.Test.YtmhggphkhabjlaaGreatDoorZWka
import Derived.Test.YtmhggphkhabjlaaGreatDoorTie
import Derived.Test.YtmhggphkhabjlaaGreatDoorCards
import Derived.Test.YtmhggphkhabjlaaGreatDoorZOpA
import Derived.SevenTiedAt

/- The reference's Has. -/
section
namespace Go.Proofs.YtmhggphkhabjlaaGreatDoor
open Go Go.RowKit Go.Deep

set_option maxRecDepth 100000 in
set_option maxHeartbeats 4000000 in
theorem r_Has (w : World) (L H X : Option Addr) (n c m d p e : Nat) (l h v : Nat → Int) (hl : IntsAt w L n l) (hh : IntsAt w H m h) (hx : IntsAt w X p v) (hp : p ≤ 1000) (hn1 : n ≤ 1000) :
    Calls Tryz.prog 27 #[BoxW L H n c m d, .slice X p e] w fun e w' => e = .returned (.bool (hasB n m p l h v)) ∧ Below w.heap.size w w' := by
  have KB := Lib.hid (box_two w (.slice L n c) (.slice H m d) 41)
  have HB : Hid (Below w.heap.size w (w.alloc (.cells #[.slice L n c, .slice H m d] 41))) := (Below.refl _ _).alloc (Nat.le_refl _) _
  have HF := Lib.hid (r_formed (w.alloc (.cells #[.slice L n c, .slice H m d] 41)) L H n c m d)
  have HL := Lib.hid hl
  have HH := Lib.hid hh
  have HX := Lib.hid hx
  have HBe := Lib.hid r_below
  obtain ⟨ve, hve⟩ : ∃ ve, hasB n m p l h v = ve := ⟨_, rfl⟩
  rw [hve]
  have HV : Hid (ve = (formB n m && (p == n && hasTo l h v n))) := hve.symm
  clear hl hh hx hve
  go_enter Tryz.func27, Tryz.ntmps27
  obtain ⟨m0, m1⟩ := KB.out _ (Below.refl _ _)
  go_wp2_with fail
  clear m0 m1
  generalize w.alloc (.cells #[.slice L n c, .slice H m d] 41) = W0 at *
  refine HF.out.mono ?_
  rintro e w1 ⟨rfl, hb1⟩
  have HB1 := Lib.hid hb1
  clear hb1 HF
  obtain ⟨m0, m1⟩ := KB.out w1 HB1.out
  cases hf : formB n m
  · have HE : Hid (ve = false) := by show _ = _; rw [HV.out, hf]; rfl
    go_wp2
    go_ret
    exact ⟨by rw [HE.out]; rfl, st HB.out HB1.out⟩
  · obtain ⟨rfl, h1, h4⟩ := formB_ok hf
    have HV2 : Hid (ve = (p == n && hasTo l h v n)) := by show _ = _; rw [HV.out, hf, Bool.true_and]
    clear hf HV
    by_cases hpn : p = n
    · subst hpn
      have HV3 : Hid (ve = hasTo l h v p) := by show _ = _; rw [HV2.out, beq_self_eq_true, Bool.true_and]
      clear HV2
      go_wp2
      clear m0 m1
      go_loopw [5] (fun i wr => ∃ k : Nat, k ≤ p ∧ i = .int .i64 k ∧ Hid (hasTo l h v k = true) ∧ Hid (Below W0.heap.size W0 wr)) (fun i _ => p - (intOf i).toNat)
      case atStart => exact ⟨0, Nat.zero_le _, rfl, rfl, HB1.out⟩
      case round =>
        obtain ⟨k, hk, rfl, HK, HBw⟩ := hrel
        by_cases hlt : k < p
        · obtain ⟨m0, m1⟩ := KB.out wr HBw.out
          have HBB : Hid (Below w.heap.size w wr) := st HB.out HBw.out
          obtain ⟨b1, o1, rfl, _, hc1⟩ := (HL.out.below HBB.out) (by omega)
          have x0 := hc1 k hlt
          obtain ⟨b2, o2, rfl, _, hc2⟩ := (HH.out.below HBB.out) (by omega)
          have y0 := hc2 k hlt
          obtain ⟨b3, o3, rfl, _, hc3⟩ := (HX.out.below HBB.out) (by omega)
          have z0 := hc3 k hlt
          clear hc1 hc2 hc3
          have HS : Hid (hasTo l h v (k + 1) = (decide (l k ≤ v k) && belB (v k) (h k))) := by show _ = _; rw [hasTo, HK.out, Bool.true_and]
          have HFf : Hid ((decide (l k ≤ v k) && belB (v k) (h k)) = false → ve = false) := fun h9 => by rw [HV3.out]; exact hasTo_le (k := k + 1) (by rw [HS.out, h9]) (by omega)
          have HBk := Lib.hid (HBe.out (v k) (h k))
          generalize l k = x at *
          generalize h k = y at *
          generalize v k = z at *
          by_cases g1 : z < x
          · have HR := Lib.hid (HFf.out (by rw [decide_eq_false (by omega)]; rfl))
            go_wp2
            go_quiet (fail)
            go_wp2
            go_ret
            exact ⟨by rw [HR.out]; rfl, drewB HBB.out _⟩
          · have r1 : decide (z < x) = ltC z x := rfl
            have a1 : ltC z x = false := decide_eq_false g1
            have HCC : Hid (∀ W, W = wr ∨ W = wr.drew → W.cell? ⟨b1, o1 + k, none⟩ = some (.int .i64 x) ∧ W.cell? ⟨b2, o2 + k, none⟩ = some (.int .i64 y) ∧ W.cell? ⟨b3, o3 + k, none⟩ = some (.int .i64 z) ∧ W.cell? ⟨w.heap.size, 0, none⟩ = some (.slice (some ⟨b1, o1, none⟩) p c) ∧ W.cell? ⟨w.heap.size, 1, none⟩ = some (.slice (some ⟨b2, o2, none⟩) p d)) := fun W hW => by
              rcases hW with rfl | rfl
              · exact ⟨x0, y0, z0, m0, m1⟩
              · exact ⟨x0, y0, z0, m0, m1⟩
            rw [decide_eq_true (by omega : x ≤ z), Bool.true_and] at HS HFf
            cases hbz : belB z y
            · rw [hbz] at HBk
              have HR := Lib.hid (HFf.out hbz)
              clear hbz
              go_wp2_with fail
              go_region_held3 (fun W => W.cell? ⟨b1, o1 + k, none⟩ = some (.int .i64 x) ∧ W.cell? ⟨b2, o2 + k, none⟩ = some (.int .i64 y) ∧ W.cell? ⟨b3, o3 + k, none⟩ = some (.int .i64 z) ∧ W.cell? ⟨w.heap.size, 0, none⟩ = some (.slice (some ⟨b1, o1, none⟩) p c) ∧ W.cell? ⟨w.heap.size, 1, none⟩ = some (.slice (some ⟨b2, o2, none⟩) p d))
                (first | exact HCC.out _ (Or.inl rfl) | exact HCC.out _ (Or.inr rfl))
                (first
                  | (go_at_call 61; refine (HBk.out _).mono ?_; rintro e w2 ⟨rfl, rfl⟩))
              all_goals
                go_wp2
                go_ret
                exact ⟨by rw [HR.out]; rfl, Below.drew HBB.out⟩
            · rw [hbz] at HBk HS
              clear hbz
              go_wp2_with fail
              go_region_held3 (fun W => W.cell? ⟨b1, o1 + k, none⟩ = some (.int .i64 x) ∧ W.cell? ⟨b2, o2 + k, none⟩ = some (.int .i64 y) ∧ W.cell? ⟨b3, o3 + k, none⟩ = some (.int .i64 z) ∧ W.cell? ⟨w.heap.size, 0, none⟩ = some (.slice (some ⟨b1, o1, none⟩) p c) ∧ W.cell? ⟨w.heap.size, 1, none⟩ = some (.slice (some ⟨b2, o2, none⟩) p d))
                (first | exact HCC.out _ (Or.inl rfl) | exact HCC.out _ (Or.inr rfl))
                (first
                  | (go_at_call 61; refine (HBk.out _).mono ?_; rintro e w2 ⟨rfl, rfl⟩))
              all_goals
                go_wp2
                go_roundw
                case rel => exact ⟨k + 1, by omega, by go_num, HS.out, Below.drew HBw.out⟩
                case measure => simp [intOf]; omega
        · obtain rfl : k = p := by omega
          go_wp2
          go_ret
          exact ⟨by rw [HV3.out, HK.out]; rfl, st HB.out HBw.out⟩
    · have HE : Hid (ve = false) := by show _ = _; rw [HV2.out, beq_false_of_ne hpn, Bool.false_and]
      have h5 : ((p : Int) != (n : Int)) = true := by rw [bne_iff_ne]; omega
      clear hpn
      go_wp2
      go_ret
      exact ⟨by rw [HE.out]; rfl, st HB.out HB1.out⟩
end Go.Proofs.YtmhggphkhabjlaaGreatDoor
end

/- The walk of SpaceBoxes. -/
section
namespace Go.Proofs.YtmhggphkhabjlaaGreatDoor
open Go Go.RowKit Go.Deep

theorem eqTo_self (f : Nat → Int) : ∀ n, eqTo f f n = true
  | 0 => rfl
  | n + 1 => by rw [eqTo, eqTo_self f n, beq_self_eq_true]; rfl
theorem sameZ_self (n : Nat) (f : Nat → Int) : sameZ n n f f = true := by unfold sameZ; rw [beq_self_eq_true, eqTo_self]; rfl
/-- What both return for the common part: the same. -/
theorem both_inter (w : World) (A1 A2 B1 B2 : Option Addr) (n c m d p e q f : Nat) (al ah bl bh : Nat → Int) (ha1 : IntsAt w A1 n al) (ha2 : IntsAt w A2 m ah) (hb1 : IntsAt w B1 p bl) (hb2 : IntsAt w B2 q bh) :
    ∃ (is : Bool) (k : Nat), k ≤ 4 ∧
      (∀ W, Below w.heap.size w W → Calls Tryz.prog 23 #[BoxW A1 A2 n c m d, BoxW B1 B2 p e q f] W fun e' w' => ∃ P Q cc dd, e' = .returned (.tuple #[BoxW P Q k cc k dd, .bool is]) ∧ IntsAt w' P k (intLo al bl) ∧ IntsAt w' Q k (intHi ah bh) ∧ Below W.heap.size W w') ∧
      (∀ W, Below w.heap.size w W → Calls Tryz.prog 24 #[BoxW A1 A2 n c m d, BoxW B1 B2 p e q f] W fun e' w' => ∃ P Q cc dd, e' = .returned (.tuple #[BoxW P Q k cc k dd, .bool is]) ∧ IntsAt w' P k (intLo al bl) ∧ IntsAt w' Q k (intHi ah bh) ∧ Below W.heap.size W w') := by
  cases hg : (formB n m && (formB p q && n == p))
  · refine ⟨false, 0, by omega, fun W hW => (s_Inter_bad W A1 A2 B1 B2 n c m d p e q f hg).mono fun e' w' ⟨h1, h2⟩ => ⟨none, none, 0, 0, h1, fun h9 => absurd h9 (by omega), fun h9 => absurd h9 (by omega), h2⟩,
      fun W hW => (r_Inter_bad W A1 A2 B1 B2 n c m d p e q f hg).mono fun e' w' ⟨h1, h2⟩ => ⟨none, none, 0, 0, h1, fun h9 => absurd h9 (by omega), fun h9 => absurd h9 (by omega), h2⟩⟩
  · rw [Bool.and_eq_true, Bool.and_eq_true, beq_iff_eq] at hg
    obtain ⟨g1, g2, rfl⟩ := hg
    obtain ⟨rfl, h1n, hn4⟩ := formB_ok g1
    obtain ⟨rfl, -, -⟩ := formB_ok g2
    refine ⟨intTo al ah bl bh n, cntB (intTo al ah bl bh n) n, by unfold cntB; cases intTo al ah bl bh n <;> simp <;> omega,
      fun W hW => (s_Inter_ok W A1 A2 B1 B2 n c d e f al ah bl bh (ha1.below hW) (ha2.below hW) (hb1.below hW) (hb2.below hW) h1n hn4).mono fun e' w' ⟨P, Q, k, h1, h2, h3, h4, h5⟩ => ?_,
      fun W hW => (r_Inter_ok W A1 A2 B1 B2 n c d e f al ah bl bh (ha1.below hW) (ha2.below hW) (hb1.below hW) (hb2.below hW) h1n hn4).mono fun e' w' ⟨P, Q, k, cc, dd, h1, h2, h3, h4, h5⟩ => ?_⟩
    · rw [← h2]; exact ⟨P, Q, k, k, h1, h3, h4, h5⟩
    · rw [← h2]; exact ⟨P, Q, cc, dd, h1, h3, h4, h5⟩
theorem both_has (w : World) (L H X : Option Addr) (n c m d p e : Nat) (l h v : Nat → Int) (hl : IntsAt w L n l) (hh : IntsAt w H m h) (hx : IntsAt w X p v) (hp : p ≤ 1000) (hn1 : n ≤ 1000) :
    ∃ b : Bool, (∀ W, Below w.heap.size w W → Calls Tryz.prog 26 #[BoxW L H n c m d, .slice X p e] W fun e w' => e = .returned (.bool b) ∧ Below W.heap.size W w') ∧
      (∀ W, Below w.heap.size w W → Calls Tryz.prog 27 #[BoxW L H n c m d, .slice X p e] W fun e w' => e = .returned (.bool b) ∧ Below W.heap.size W w') :=
  ⟨hasB n m p l h v, fun W hW => s_Has W L H X n c m d p e l h v (hl.below hW) (hh.below hW) (hx.below hW) hp hn1, fun W hW => r_Has W L H X n c m d p e l h v (hl.below hW) (hh.below hW) (hx.below hW) hp hn1⟩

set_option maxRecDepth 100000 in
set_option maxHeartbeats 8000000 in
theorem l_boxes (w : World) (A1 A2 B1 B2 X : Option Addr) (n c m d p e q f r rc : Nat) (al ah bl bh v : Nat → Int) (ha1 : IntsAt w A1 n al) (ha2 : IntsAt w A2 m ah) (hb1 : IntsAt w B1 p bl) (hb2 : IntsAt w B2 q bh) (hx : IntsAt w X r v) (hw : WorksAt w) :
    Calls Tryz.prog 5 #[BoxW A1 A2 n c m d, BoxW B1 B2 p e q f, .slice X r rc] w fun e' w' => e' = .returned (.bool true) ∧ Below w.heap.size w w' := by
  have HW := Lib.hid hw
  have HT : Hid (∀ W, Below (w.heap.size + 2) ((w.alloc (.cells #[.slice A1 n c, .slice A2 m d] 41)).alloc (.cells #[.slice B1 p e, .slice B2 q f] 41)) W → (W.cell? ⟨w.heap.size, 0, none⟩ = some (.slice A1 n c) ∧ W.cell? ⟨w.heap.size, 1, none⟩ = some (.slice A2 m d)) ∧ (W.cell? ⟨w.heap.size + 1, 0, none⟩ = some (.slice B1 p e) ∧ W.cell? ⟨w.heap.size + 1, 1, none⟩ = some (.slice B2 q f)) ∧ Below w.heap.size w W) := fun W hW => by
    have q0 := box_two w (.slice A1 n c) (.slice A2 m d) 41 W (Below.trans ((Below.refl _ _).alloc (Nat.le_refl _) _) (hW.mono (by simp)))
    have q1 := box_two (w.alloc (.cells #[.slice A1 n c, .slice A2 m d] 41)) (.slice B1 p e) (.slice B2 q f) 41 W (by rw [World.size_alloc, World.size_alloc]; exact hW)
    rw [World.size_alloc] at q1
    exact ⟨q0, q1, Below.trans (((Below.refl _ _).alloc (Nat.le_refl _) _).alloc (by simp) _) (hW.mono (by omega))⟩
  obtain ⟨is, k, hk4, hI, hJ⟩ := both_inter w A1 A2 B1 B2 n c m d p e q f al ah bl bh ha1 ha2 hb1 hb2
  have HI := Lib.hid hI
  have HJ := Lib.hid hJ
  have HH : Hid (r ≤ 10 → n ≤ 10 → ∃ b : Bool, (∀ W, Below w.heap.size w W → Calls Tryz.prog 26 #[BoxW A1 A2 n c m d, .slice X r rc] W fun e w' => e = .returned (.bool b) ∧ Below W.heap.size W w') ∧
      (∀ W, Below w.heap.size w W → Calls Tryz.prog 27 #[BoxW A1 A2 n c m d, .slice X r rc] W fun e w' => e = .returned (.bool b) ∧ Below W.heap.size W w')) := fun h1 h2 => both_has w A1 A2 X n c m d r rc al ah v ha1 ha2 hx (by omega) (by omega)
  have hz0 : ((w.alloc (.cells #[.slice A1 n c, .slice A2 m d] 41)).alloc (.cells #[.slice B1 p e, .slice B2 q f] 41)).heap.size = w.heap.size + 2 := by simp
  clear ha1 ha2 hb1 hb2 hx hw hI hJ
  have HF : Hid (intLo al bl = intLo al bl) := rfl
  generalize intLo al bl = F at *
  generalize intHi ah bh = G at *
  go_enter Tryz.func5, Tryz.ntmps5
  obtain ⟨⟨m0, m1⟩, ⟨m2, m3⟩, hB0⟩ := HT.out ((w.alloc (.cells #[.slice A1 n c, .slice A2 m d] 41)).alloc (.cells #[.slice B1 p e, .slice B2 q f] 41)) (by rw [← hz0]; exact Below.refl _ _)
  have HB0 := Lib.hid hB0
  clear hB0
  by_cases hbig : n ≤ 10 ∧ m ≤ 10 ∧ p ≤ 10 ∧ q ≤ 10 ∧ r ≤ 10
  · obtain ⟨g1, g2, g3, g4, g5⟩ := hbig
    obtain ⟨b, hh1, hh2⟩ := HH.out g5 g1
    have HH1 := Lib.hid hh1
    have HH2 := Lib.hid hh2
    clear hh1 hh2 HH
    have j1 : ¬ (n : Int) > 10 := by omega
    have j2 : ¬ (m : Int) > 10 := by omega
    have j3 : ¬ (p : Int) > 10 := by omega
    have j4 : ¬ (q : Int) > 10 := by omega
    have j5 : ¬ (r : Int) > 10 := by omega
    go_wp2_with fail
    clear m0 m1 m2 m3
    generalize (w.alloc (.cells #[.slice A1 n c, .slice A2 m d] 41)).alloc (.cells #[.slice B1 p e, .slice B2 q f] 41) = W0 at *
    refine (HI.out _ HB0.out).mono ?_
    rintro e1 w1 ⟨P, Q, cc, dd, rfl, h11, h12, hb1⟩
    rw [hz0] at hb1
    have hz1 : w.heap.size + 2 ≤ w1.heap.size := by rw [← hz0]; exact hb1.size
    have HE1 : Hid (Below (w.heap.size + 2) W0 (w1.alloc (.cells #[.slice P k cc, .slice Q k dd] 41))) := hb1.alloc hz1 _
    obtain ⟨⟨m0, m1⟩, ⟨m2, m3⟩, hBw1⟩ := HT.out (w1.alloc (.cells #[.slice P k cc, .slice Q k dd] 41)) HE1.out
    have HBw1 := Lib.hid hBw1
    have K1 := Lib.hid (box_two w1 (.slice P k cc) (.slice Q k dd) 41)
    have hzx : (w1.alloc (.cells #[.slice P k cc, .slice Q k dd] 41)).heap.size = w1.heap.size + 1 := by simp
    have H11 : Hid (IntsAt (w1.alloc (.cells #[.slice P k cc, .slice Q k dd] 41)) P k F) := h11.below ((Below.refl _ _).alloc (Nat.le_refl _) _)
    have H12 : Hid (IntsAt (w1.alloc (.cells #[.slice P k cc, .slice Q k dd] 41)) Q k G) := h12.below ((Below.refl _ _).alloc (Nat.le_refl _) _)
    clear h11 h12 hb1 hBw1
    go_wp2_with fail
    generalize w1.alloc (.cells #[.slice P k cc, .slice Q k dd] 41) = v1 at *
    refine (HJ.out _ HBw1.out).mono ?_
    rintro e2 w2 ⟨P2, Q2, cc2, dd2, rfl, h21, h22, hb2⟩
    have hzv : v1.heap.size ≤ w2.heap.size := hb2.size
    have HE2 : Hid (Below v1.heap.size v1 (w2.alloc (.cells #[.slice P2 k cc2, .slice Q2 k dd2] 41))) := hb2.alloc hzv _
    have HE02 : Hid (Below (w.heap.size + 2) W0 (w2.alloc (.cells #[.slice P2 k cc2, .slice Q2 k dd2] 41))) := HE1.out.trans (HE2.out.mono (by omega))
    have K2 := Lib.hid (box_two w2 (.slice P2 k cc2) (.slice Q2 k dd2) 41)
    have hzy : (w2.alloc (.cells #[.slice P2 k cc2, .slice Q2 k dd2] 41)).heap.size = w2.heap.size + 1 := by simp
    have H21 : Hid (IntsAt (w2.alloc (.cells #[.slice P2 k cc2, .slice Q2 k dd2] 41)) P2 k F) := h21.below ((Below.refl _ _).alloc (Nat.le_refl _) _)
    have H22 : Hid (IntsAt (w2.alloc (.cells #[.slice P2 k cc2, .slice Q2 k dd2] 41)) Q2 k G) := h22.below ((Below.refl _ _).alloc (Nat.le_refl _) _)
    have H11' : Hid (IntsAt (w2.alloc (.cells #[.slice P2 k cc2, .slice Q2 k dd2] 41)) P k F) := H11.out.below HE2.out
    have H12' : Hid (IntsAt (w2.alloc (.cells #[.slice P2 k cc2, .slice Q2 k dd2] 41)) Q k G) := H12.out.below HE2.out
    have HSm : Hid (∀ W, Below (w2.alloc (.cells #[.slice P2 k cc2, .slice Q2 k dd2] 41)).heap.size (w2.alloc (.cells #[.slice P2 k cc2, .slice Q2 k dd2] 41)) W → Calls Tryz.prog 25 #[BoxW P Q k cc k dd, BoxW P2 Q2 k cc2 k dd2] W fun e w' => e = .returned (.bool true) ∧ Below W.heap.size W w') := fun W hW => by
      have h := s_SameBox W P Q P2 Q2 k cc k dd k cc2 k dd2 F F G G (H11'.out.below hW) (H12'.out.below hW) (H21.out.below hW) (H22.out.below hW) (by omega) (by omega) (by omega) (by omega)
      rw [sameZ_self, sameZ_self] at h
      exact h
    rw [hzx] at HE2 K1
    rw [hzy] at K2
    have HK : Hid (∀ W, Below (w2.alloc (.cells #[.slice P2 k cc2, .slice Q2 k dd2] 41)).heap.size (w2.alloc (.cells #[.slice P2 k cc2, .slice Q2 k dd2] 41)) W → (W.cell? ⟨w.heap.size, 0, none⟩ = some (.slice A1 n c) ∧ W.cell? ⟨w.heap.size, 1, none⟩ = some (.slice A2 m d)) ∧ (W.cell? ⟨w1.heap.size, 0, none⟩ = some (.slice P k cc) ∧ W.cell? ⟨w1.heap.size, 1, none⟩ = some (.slice Q k dd)) ∧ (W.cell? ⟨w2.heap.size, 0, none⟩ = some (.slice P2 k cc2) ∧ W.cell? ⟨w2.heap.size, 1, none⟩ = some (.slice Q2 k dd2))) := fun W hW =>
      ⟨(HT.out W (HE02.out.trans (hW.mono (by have := HE02.out.size; omega)))).1, K1.out W (HE2.out.trans (hW.mono (by omega))), K2.out W (by rw [hzy] at hW; exact hW)⟩
    have HBB : Hid (Below w.heap.size w (w2.alloc (.cells #[.slice P2 k cc2, .slice Q2 k dd2] 41))) := (HT.out _ HE02.out).2.2
    clear m0 m1 m2 m3 h21 h22 hb2 HE1 HE2 HE02 K1 K2 H21 H22 H11 H12 H11' H12' HI HJ HT
    go_wp2_with fail
    generalize w2.alloc (.cells #[.slice P2 k cc2, .slice Q2 k dd2] 41) = w3 at *
    have B3d : Below w3.heap.size w3 w3.drew := Below.drew (Below.refl _ _)
    have his : (is == is) = true := by cases is <;> rfl
    have hbb : (b == b) = true := by cases b <;> rfl
    go_region_held3 (fun W => (W.cell? ⟨w.heap.size, 0, none⟩ = some (.slice A1 n c) ∧ W.cell? ⟨w.heap.size, 1, none⟩ = some (.slice A2 m d)) ∧ (W.cell? ⟨w1.heap.size, 0, none⟩ = some (.slice P k cc) ∧ W.cell? ⟨w1.heap.size, 1, none⟩ = some (.slice Q k dd)) ∧ (W.cell? ⟨w2.heap.size, 0, none⟩ = some (.slice P2 k cc2) ∧ W.cell? ⟨w2.heap.size, 1, none⟩ = some (.slice Q2 k dd2)))
      (first | exact HK.out _ B7 | exact HK.out _ B6 | exact HK.out _ B5 | exact HK.out _ B4 | exact HK.out _ B3d | exact HK.out _ (Below.refl _ _))
      (first
        | (go_at_call 25; refine (HSm.out _ B3d).mono ?_; rintro e4 w4 ⟨rfl, hb4⟩; have B4 : Below w3.heap.size w3 w4 := st B3d hb4)
        | (go_at_call 26; refine (HH1.out _ (st HBB.out B4)).mono ?_; rintro e5 w5 ⟨rfl, hb5⟩; have B5 : Below w3.heap.size w3 w5 := st B4 hb5)
        | (go_at_call 27; refine (HH2.out _ (st HBB.out B5)).mono ?_; rintro e6 w6 ⟨rfl, hb6⟩; have B6 : Below w3.heap.size w3 w6 := st B5 hb6)
        | (go_at_call 11; refine (HW.out _ (st HBB.out B6)).mono ?_; rintro e7 w7 ⟨rfl, hb7⟩; have B7 : Below w3.heap.size w3 w7 := st B6 hb7))
    all_goals
      go_wp2
      go_ret
      exact ⟨rfl, st HBB.out B7⟩
  · clear HI HJ HH
    by_cases j1 : (n : Int) > 10
    · go_wp2_with (first | (go_at_call 11; refine (HW.out _ HB0.out).mono ?_; rintro e7 w7 ⟨rfl, hb7⟩))
      go_ret
      exact ⟨rfl, st HB0.out hb7⟩
    · by_cases j2 : (m : Int) > 10
      · go_wp2_with (first | (go_at_call 11; refine (HW.out _ HB0.out).mono ?_; rintro e7 w7 ⟨rfl, hb7⟩))
        go_ret
        exact ⟨rfl, st HB0.out hb7⟩
      · by_cases j3 : (p : Int) > 10
        · go_wp2_with (first | (go_at_call 11; refine (HW.out _ HB0.out).mono ?_; rintro e7 w7 ⟨rfl, hb7⟩))
          go_ret
          exact ⟨rfl, st HB0.out hb7⟩
        · by_cases j4 : (q : Int) > 10
          · go_wp2_with (first | (go_at_call 11; refine (HW.out _ HB0.out).mono ?_; rintro e7 w7 ⟨rfl, hb7⟩))
            go_ret
            exact ⟨rfl, st HB0.out hb7⟩
          · have j5 : (r : Int) > 10 := by omega
            clear hbig
            go_wp2_with (first | (go_at_call 11; refine (HW.out _ HB0.out).mono ?_; rintro e7 w7 ⟨rfl, hb7⟩))
            go_ret
            exact ⟨rfl, st HB0.out hb7⟩
end Go.Proofs.YtmhggphkhabjlaaGreatDoor
end

/- SpaceBoxes: whatever the boxes and the coordinates, Inter and Has return what the document's own account returns: the law returns true. Its row lists package-level variables, tied to the program's text by the card. -/
section
namespace Go.Proofs.YtmhggphkhabjlaaGreatDoor
open Go.ChangeShapes Go.WideShapes Go.ChangeAt Go.RowKit

set_option maxRecDepth 100000 in
theorem claimk_lifted (os : Os) (started : os.Started) (H : Type) (enc : TypeId × Value → H) :
    ReturnsInHanded {} Tryz.checked os 5 .any (fun w args => (Rows.spaceBoxesSpec.pre enc Tryz.prog Tryz.f5 [] false w args ∧ laidMetH Tryz.prog Rows.spaceBoxesRow.laid w) ∧ sizedMet enc Tryz.prog Tryz.f5 (OpenSpec.ofChange Rows.spaceBoxesSpec) false w args)
      (Rows.spaceBoxesSpec.post enc Tryz.prog Tryz.f5 false true false false) := by
  refine handed_laid_shaped (C := Tryz.checked) (X := fun w _ => laidMetH Tryz.prog Rows.spaceBoxesRow.laid w) (fun _ _ _ hh h => h.of_heap hh) own started (by kernel_rfl) Tryz.func5
    (ChangeSpec.witness_shaped (enc := enc) (C := Tryz.checked) (os := os) (X := fun w _ => laidMetH Tryz.prog Rows.spaceBoxesRow.laid w) false (World.laidAll Tryz.prog os Rows.spaceBoxesRow.laid) #[.agg #[.slice none 0 0, .slice none 0 0], .agg #[.slice none 0 0, .slice none 0 0], .slice none 0 0] 8 (World.laidAll_os _ _ _)
      (World.shaped_of_ZipB (by kernel_rfl) (by kernel_rfl)) (by kernel_rfl) (by kernel_rfl) (by kernel_rfl)
      (by rw [MakeChecks.laidMetH_plain _ _ _ (by kernel_rfl)]; exact laidMet_laidAll _ (by kernel_rfl) (by kernel_rfl))) ?_
  intro W base args ds gs before hval0 hW hlaid hsh
  have hval : ∀ (j : Nat) t v, Tryz.f5.params[j]? = some t → args[j]? = some v → Value.okWide Tryz.prog W .any base t v := hval0
  rw [MakeChecks.laidMetH_plain _ _ _ (by kernel_rfl)] at hlaid
  have htab : Tab W := tab_of hlaid
  have htt : TyTab W := tyTab_of hlaid
  have hW' := hW
  obtain ⟨p, q, hA0, hV, rfl, _, _⟩ := hW
  have hA : DataW.TrodAll enc Tryz.prog W 0 (fun _ => true) true Tryz.f5.params.toList args.toList ds p := hA0
  rw [Tryz.params5] at hA hval
  obtain ⟨v0, v1, v2, d0, d1, d2, p0, p1, p2, rfl, rfl, rfl, h0, h1, h2⟩ := trodAll_three hA
  obtain ⟨rfl, rfl⟩ := trodVars_none hV
  have k0 := h0
  obtain ⟨A1, A2, n, c1, m, c2, al, ah, rfl, ha1, ha2⟩ := open_boxA (hval 0 41 v0 rfl rfl) h0
  have k1 := h1
  obtain ⟨B1, B2, p9, c3, q9, c4, bl, bh, rfl, hb1, hb2⟩ := open_boxA (hval 1 41 v1 rfl rfl) h1
  obtain ⟨X, r, rc, rfl⟩ := okWide_slice Tryz.underlying32 (hval 2 32 v2 rfl rfl)
  clear hA0 hval0
  simp only [List.append_nil] at hW'
  obtain ⟨m9, hm9⟩ := maxLen_cell hsh
  have hlt0 : ∀ x ∈ p0, x.block < W.heap.size := fun x hx => hW'.lt x (by simp [hx])
  have hlt1 : ∀ x ∈ p1, x.block < W.heap.size := fun x hx => hW'.lt x (by simp [hx])
  have hlt2 : ∀ x ∈ p2, x.block < W.heap.size := fun x hx => hW'.lt x (by simp [hx])
  have k2 := h2
  obtain ⟨_, f2⟩ := h2
  obtain ⟨xs, hx, hr, hxb⟩ := open_intsAt f2
  refine (l_boxes W A1 A2 B1 B2 X n c1 m c2 p9 c3 q9 c4 r rc al ah bl bh xs ha1 ha2 hb1 hb2 hx (works_at htab htt hm9)).mono fun e W' ⟨he, hb⟩ => ?_
  subst he
  have tr0 := Below.trod laidOut' (t := 41) (by kernel_rfl) (of_decide_eq_true (by kernel_rfl)) k0 hb hlt0
  have tr1 := Below.trod laidOut' (t := 41) (by kernel_rfl) (of_decide_eq_true (by kernel_rfl)) k1 hb hlt1
  have tr2 := Below.trod laidOut' (t := 32) (by kernel_rfl) (of_decide_eq_true (by kernel_rfl)) k2 hb hlt2
  exact ⟨_, rfl, ⟨_, _, _, [], _, [], hW', trodAll_mk1 (shut_bool Tryz.underlying4 _), trodAll_mk3 tr0 tr1 tr2, rfl, hb.frame _, fun h => by cases h⟩⟩

theorem claimk_row : Rows.SpaceBoxesSaid :=
  OpenClaim.holds_of_wide 5 Tryz.f5 rfl rfl rfl rfl rfl rfl rfl ⟨rfl, rfl, rfl, rfl, rfl⟩ rfl rfl rfl rfl rfl (by kernel_rfl) Tryz.func5 (by kernel_rfl)
    (of_decide_eq_true (by kernel_rfl)) (by unfold Func.isWrapper; first | (rw [if_pos (by decide +kernel)]; kernel_rfl) | (rw [if_neg (by decide +kernel)]; exact ⟨rfl, rfl⟩))
    (fun os started H enc _ => claimk_lifted os started H enc)

theorem claimk_card : Rows.SpaceBoxesCardSaid :=
  Claim7.holds_tied_plain_at .later [] Rows.spaceBoxesCard.laidKinds true Rows.spaceBoxesCard.stood.harness false
    claimk_row (fun _ h => by cases h) (by kernel_rfl) (fun _ h => by cases h) spaceBoxes_row_tie rfl ⟨rfl, rfl⟩ (by kernel_rfl) rfl
    (fun f fn hf hfn => by
      obtain rfl : f = 5 := Option.some.inj ((show Tryz.prog.funcNamed "tesseract/tesseractlaw02.SpaceBoxes" = some 5 by kernel_rfl).symm.trans hf) |>.symm
      obtain rfl : fn = Tryz.f5 := (Option.some.inj (Tryz.func5.symm.trans hfn)).symm
      exact ⟨by kernel_rfl, fun j t ht => by
        rw [Tryz.params5] at ht
        have hin : t ∈ [41, 41, 32] := by simpa using Array.mem_of_getElem? ht
        have hall : ([41, 41, 32].all fun u => !Tryz.prog.wantsStandIn u) = true := by kernel_rfl
        exact (show Tryz.prog.wantsStandIn t = false by simpa using List.all_eq_true.1 hall t hin)⟩)
    (by kernel_rfl)
end Go.Proofs.YtmhggphkhabjlaaGreatDoor
end
