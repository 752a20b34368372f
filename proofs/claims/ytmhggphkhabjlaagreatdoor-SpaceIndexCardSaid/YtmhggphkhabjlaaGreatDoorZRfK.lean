/- The reference's Of and Index. -/
import Derived.Test.YtmhggphkhabjlaaGreatDoorZRfV
import Derived.Test.YtmhggphkhabjlaaGreatDoorZSpH
import Derived.Test.YtmhggphkhabjlaaGreatDoorZLS

/- The reference's Of and Index. -/
section
namespace Go.Proofs.YtmhggphkhabjlaaGreatDoor
open Go Go.RowKit Go.Deep

def ofB (lo hi xs : Nat → Int) (n m : Nat) : Bool := n == m && inTo lo hi xs n
set_option maxRecDepth 100000 in
set_option maxHeartbeats 4000000 in
theorem r_Of (w : World) (A X : Option Addr) (n cap m cap' : Nat) (nm : Nat → ByteArray) (lo hi xs : Nat → Int) (hd : DimsAt w A n nm lo hi) (hx : IntsAt w X m xs) (hn : n ≤ 1000) (hm : m ≤ 1000) :
    Calls Tryz.prog 57 #[.slice A n cap, .slice X m cap'] w fun e w' => e = .returned (.bool (ofB lo hi xs n m)) ∧ Below w.heap.size w w' := by
  by_cases hnm : n = m
  · subst hnm
    have e1 : ofB lo hi xs n n = inTo lo hi xs n := by rw [ofB, beq_self_eq_true, Bool.true_and]
    rw [e1]
    clear e1
    have HD := Lib.hid hd
    have HX := Lib.hid hx
    have HL := Lib.hid r_Last
    clear hd hx
    go_enter Tryz.func57, Tryz.ntmps57
    go_wp2
    go_loopw [5] (fun i wr => ∃ k : Nat, k ≤ n ∧ i = .int .i64 k ∧ Hid (inTo lo hi xs k = true ∧ Below w.heap.size w wr)) (fun i _ => n - (intOf i).toNat)
    case atStart => exact ⟨0, Nat.zero_le _, rfl, rfl, Below.refl _ _⟩
    case round =>
      obtain ⟨k, hk, rfl, HK⟩ := hrel
      by_cases hlt : k < n
      · obtain ⟨bd, o, rfl, hbd, hc⟩ := (HD.out.below HK.out.2) (by omega)
        obtain ⟨c0, c1, c2⟩ := hc k hlt
        clear hc
        obtain ⟨bx, ox, rfl, hbx, hcx⟩ := (HX.out.below HK.out.2) (by omega)
        have x0 := hcx k hlt
        clear hcx
        have HS : Hid (inTo lo hi xs (k + 1) = (decide (lo k ≤ xs k) && decide (xs k ≤ lastZ (hi k)))) := by show _ = _; rw [inTo, HK.out.1]; rfl
        have HF : Hid ((decide (lo k ≤ xs k) && decide (xs k ≤ lastZ (hi k))) = false → inTo lo hi xs n = false) := fun h => inTo_le (k := k + 1) (by rw [HS.out, h]) (by omega)
        have HB := Lib.hid HK.out.2
        have HCC : Hid (∀ W, Below wr.heap.size wr W → W.cell? ⟨bx, ox + k, none⟩ = some (.int .i64 (xs k)) ∧ W.cell? ⟨bd, o + k * 3, none⟩ = some (.string (nm k)) ∧ W.cell? ⟨bd, o + k * 3 + 1, none⟩ = some (.int .i64 (lo k)) ∧ W.cell? ⟨bd, o + k * 3 + 2, none⟩ = some (.int .i64 (hi k))) := fun W hW =>
          ⟨(hW.cell (p := ⟨bx, ox + k, none⟩) hbx).trans x0, (hW.cell (p := ⟨bd, o + k * 3, none⟩) hbd).trans c0, (hW.cell (p := ⟨bd, o + k * 3 + 1, none⟩) hbd).trans c1, (hW.cell (p := ⟨bd, o + k * 3 + 2, none⟩) hbd).trans c2⟩
        have HLk := Lib.hid (fun W => HL.out (nm k) (lo k) (hi k) W)
        generalize nm k = s at *
        generalize lo k = l0 at *
        generalize hi k = h0 at *
        generalize xs k = z at *
        generalize lastZ h0 = L at *
        by_cases g1 : z < l0
        · have HR : Hid (inTo lo hi xs n = false) := HF.out (by rw [decide_eq_false (by omega)]; rfl)
          go_wp2
          go_quiet (fail)
          go_wp2
          go_ret
          exact ⟨by rw [HR.out]; rfl, drewB HB.out _⟩
        · have r1 : decide (z < l0) = ltC z l0 := rfl
          have a1 : ltC z l0 = false := decide_eq_false g1
          have r2 : decide (L < z) = ltC L z := rfl
          have B0d : Below wr.heap.size wr wr.drew := Below.drew (Below.refl _ _)
          by_cases g2 : L < z
          · have HR : Hid (inTo lo hi xs n = false) := HF.out (by rw [decide_eq_false (by omega : ¬ z ≤ L), Bool.and_false])
            have a2 : ltC L z = true := decide_eq_true g2
            go_wp2_with fail
            go_region_held3 (fun W => W.cell? ⟨bx, ox + k, none⟩ = some (.int .i64 z) ∧ W.cell? ⟨bd, o + k * 3, none⟩ = some (.string s) ∧ W.cell? ⟨bd, o + k * 3 + 1, none⟩ = some (.int .i64 l0) ∧ W.cell? ⟨bd, o + k * 3 + 2, none⟩ = some (.int .i64 h0))
              (first | exact HCC.out _ B1 | exact HCC.out _ B0d | exact HCC.out _ (Below.refl _ _))
              (first
                | (go_at_call 70; refine (HLk.out _).mono ?_; rintro e w1 ⟨rfl, hb1⟩; have B1 : Below wr.heap.size wr w1 := st B0d hb1))
            all_goals
              have HB1 : Hid (Below w.heap.size w w1) := st HB.out B1
              go_wp2
              go_ret
              exact ⟨by rw [HR.out]; rfl, HB1.out⟩
          · have HR : Hid (inTo lo hi xs (k + 1) = true) := by show _ = _; rw [HS.out, decide_eq_true (by omega : l0 ≤ z), decide_eq_true (by omega : z ≤ L)]; rfl
            have a2 : ltC L z = false := decide_eq_false g2
            go_wp2_with fail
            go_region_held3 (fun W => W.cell? ⟨bx, ox + k, none⟩ = some (.int .i64 z) ∧ W.cell? ⟨bd, o + k * 3, none⟩ = some (.string s) ∧ W.cell? ⟨bd, o + k * 3 + 1, none⟩ = some (.int .i64 l0) ∧ W.cell? ⟨bd, o + k * 3 + 2, none⟩ = some (.int .i64 h0))
              (first | exact HCC.out _ B1 | exact HCC.out _ B0d | exact HCC.out _ (Below.refl _ _))
              (first
                | (go_at_call 70; refine (HLk.out _).mono ?_; rintro e w1 ⟨rfl, hb1⟩; have B1 : Below wr.heap.size wr w1 := st B0d hb1))
            all_goals
              have HB1 : Hid (Below w.heap.size w w1) := st HB.out B1
              go_wp2
              go_roundw
              case rel => exact ⟨k + 1, by omega, by go_num, HR.out, HB1.out⟩
              case measure => simp [intOf]; omega
      · obtain rfl : k = n := by omega
        go_wp2
        go_ret
        exact ⟨by rw [HK.out.1]; rfl, HK.out.2⟩
  · have e1 : ofB lo hi xs n m = false := by rw [ofB, beq_false_of_ne hnm, Bool.false_and]
    have h1 : ((m : Int) != (n : Int)) = true := by rw [bne_iff_ne]; omega
    rw [e1]
    clear e1 hnm
    go_enter Tryz.func57, Tryz.ntmps57
    go_wp2
    go_ret
    exact ⟨rfl, Below.refl _ _⟩
end Go.Proofs.YtmhggphkhabjlaaGreatDoor
end

/- The reference's Index and At. -/
section
namespace Go.Proofs.YtmhggphkhabjlaaGreatDoor
open Go Go.RowKit Go.Deep

theorem idx_wrap' {p z l I : Int} (h : I = p + (z - l)) (h1 : 0 ≤ I) (h2 : I ≤ 4611686018427387904) : wrap64 (wrap64 (wrap64 p + z) - l) = I := by
  unfold wrap64
  omega
theorem place_of {lo hi xs : Nat → Int} {n m : Nat} : placeEr lo hi xs n m = if m ≠ n then 13 else if ofB lo hi xs n m = false then 3 else 0 := by
  unfold placeEr ofB
  by_cases h : n = m
  · rw [if_neg (by omega), if_neg (by omega), h, beq_self_eq_true, Bool.true_and]
    cases inTo lo hi xs m <;> rfl
  · rw [if_pos h, if_pos (by omega)]

set_option maxRecDepth 100000 in
set_option maxHeartbeats 4000000 in
theorem r_Index (w : World) (A X : Option Addr) (n cap m mc : Nat) (nm : Nat → ByteArray) (lo hi xs : Nat → Int) (hd : DimsAt w A n nm lo hi) (hx : IntsAt w X m xs) (hs : ∀ k, k < n → (nm k).size ≤ 9223372036854775807) (hn1 : n ≤ 1000) (hm1 : m ≤ 1000) :
    Calls Tryz.prog 19 #[.slice A n cap, .slice X m mc] w fun e w' => e = .returned (.tuple #[.int .i64 (idxZ nm lo hi n xs m), .int .i64 (idxE nm lo hi n xs m)]) ∧ Below w.heap.size w w' := by
  have HV := Lib.hid (r_Volume w A n cap nm lo hi hd hs hn1)
  have HP : Hid (∀ W, Below w.heap.size w W → Calls Tryz.prog 57 #[.slice A n cap, .slice X m mc] W fun e w' => e = .returned (.bool (ofB lo hi xs n m)) ∧ Below W.heap.size W w') := fun W hW => r_Of W A X n cap m mc nm lo hi xs (hd.below hW) (hx.below hW) hn1 hm1
  have HD := Lib.hid hd
  have HI := Lib.hid hx
  clear hd hx hs
  obtain ⟨vz, hvz⟩ : ∃ vz, idxZ nm lo hi n xs m = vz := ⟨_, rfl⟩
  obtain ⟨ve, hve⟩ : ∃ ve, idxE nm lo hi n xs m = ve := ⟨_, rfl⟩
  rw [hvz, hve]
  have HE : Hid (idxZ nm lo hi n xs m = vz ∧ idxE nm lo hi n xs m = ve) := ⟨hvz, hve⟩
  clear hvz hve
  by_cases h0 : volE nm lo hi n = 0
  · have HZ := Lib.hid (vol_zero h0)
    have HOp : Hid (openB hi n = false) := by
      show _ = _
      cases ho : openB hi n
      · rfl
      · rw [volE, if_neg (by rw [HZ.out.2.2.2.2.2.2.2]; simp), ho] at h0; simp at h0
    have HE2 : Hid (ve = if m ≠ n then 13 else if ofB lo hi xs n m = false then 3 else 0) := by show _ = _; rw [← HE.out.2, idxE, if_neg (by rw [h0]; simp), place_of]
    have h4 : n ≤ 4 := HZ.out.2.1
    rw [h0] at HV
    clear h0
    generalize volZ nm lo hi n = V at *
    by_cases hmn : m = n
    · have HE3 : Hid (ve = if ofB lo hi xs n m = false then 3 else 0) := by show _ = _; rw [HE2.out, if_neg (by omega)]
      clear HE2
      have h5 : ((m : Int) != (n : Int)) = false := by rw [hmn]; simp
      cases hof : ofB lo hi xs n m
      · rw [hof] at HP
        have HE4 : Hid (ve = 3) := by show _ = _; rw [HE3.out, if_pos hof]
        have HR : Hid (vz = 0) := by show _ = _; rw [← HE.out.1, idxZ, if_neg (by rw [HE.out.2, HE4.out]; decide)]
        clear hof HE3
        subst hmn
        go_enter Tryz.func19, Tryz.ntmps19
        go_wp2_with fail
        refine HV.out.mono ?_
        rintro e w1 ⟨rfl, hb1⟩
        go_wp2_with fail
        refine (HP.out _ hb1).mono ?_
        rintro e w2 ⟨rfl, hb2⟩
        go_wp2
        go_ret2
        exact ⟨by rw [HR.out, HE4.out]; rfl, st hb1 hb2⟩
      · rw [hof] at HP
        have HE4 : Hid (ve = 0) := by show _ = _; rw [HE3.out, if_neg (by rw [hof]; decide)]
        have HR : Hid (vz = idxTo lo hi xs n) := by show _ = _; rw [← HE.out.1, idxZ, if_pos (by rw [HE.out.2, HE4.out])]
        have HN : Hid (inTo lo hi xs n = true) := by
          show _ = _
          rw [ofB, Bool.and_eq_true] at hof
          exact hof.2
        clear hof HE3
        subst hmn
        go_enter Tryz.func19, Tryz.ntmps19
        go_wp2_with fail
        refine HV.out.mono ?_
        rintro e w1 ⟨rfl, hb1⟩
        go_wp2_with fail
        refine (HP.out _ hb1).mono ?_
        rintro e w2 ⟨rfl, hb2⟩
        have HB2 : Hid (Below w.heap.size w w2) := st hb1 hb2
        clear hb1 hb2 HP HV
        go_wp2
        go_loopw [8, 9] (fun v i wr => ∃ k : Nat, k ≤ m ∧ i = .int .i64 k ∧ v = .int .i64 (idxTo lo hi xs k) ∧ Hid (Below w.heap.size w wr)) (fun _ i _ => m - (intOf i).toNat)
        case atStart => exact ⟨0, Nat.zero_le _, rfl, rfl, HB2.out⟩
        case round =>
          obtain ⟨k, hk, rfl, rfl, HB⟩ := hrel
          by_cases hlt : k < m
          · obtain ⟨bd, o, rfl, hbd, hc⟩ := (HD.out.below HB.out) (by omega)
            obtain ⟨c0, c1, c2⟩ := hc k hlt
            clear hc
            obtain ⟨bx, ox, rfl, hbx, hcx⟩ := (HI.out.below HB.out) (by omega)
            have x0 := hcx k hlt
            clear hcx
            have HBo : Hid (0 ≤ idxTo lo hi xs (k + 1) ∧ idxTo lo hi xs (k + 1) ≤ 4611686018427387904) := by
              have a := idxTo_bound (k := k + 1) (fun i hi => HZ.out.2.2.1 i (by omega)) (inTo_mono HN.out hlt)
              have b := prodZ_le HZ.out.2.2.1 HZ.out.2.2.2.1 (k := k + 1) hlt
              exact ⟨a.1, by omega⟩
            have HS : Hid (idxTo lo hi xs (k + 1) = idxTo lo hi xs k * extZ (lo k) (hi k) + (xs k - lo k)) := rfl
            obtain ⟨q1, q2, q3, q4⟩ := HZ.out.2.2.1 k hlt
            have hEx := (ext_closed HZ.out.2.2.1 HOp.out hlt).1
            have HE1 : Hid (1 ≤ extZ (lo k) (hi k) ∧ extZ (lo k) (hi k) ≤ 2147483649) := extZ_bound q1 q2 q3
            generalize nm k = s at *
            generalize lo k = l0 at *
            generalize hi k = h0 at *
            generalize xs k = z at *
            generalize idxTo lo hi xs k = I at *
            obtain ⟨I', hI⟩ : ∃ I', idxTo lo hi xs (k + 1) = I' := ⟨_, rfl⟩
            have HI2 := Lib.hid hI
            rw [hI] at HBo HS
            clear hI
            generalize extZ l0 h0 = E at *
            have hw1 : IntKind.i64.wrap (h0 - l0) = h0 - l0 := by rw [w64 (by omega) (by omega)]
            have hw2 : IntKind.i64.wrap (h0 - l0 + 1) = E := by rw [w64 (by omega) (by omega), hEx]
            clear hEx q1 q2 q3 q4
            go_wp2
            go_quiet (fail)
            have HBd : Hid (Below w.heap.size w (wr.drewN nq)) := drewB HB.out _
            generalize wr.drewN nq = wq at *
            go_wp2
            go_roundw
            case rel => exact ⟨k + 1, by omega, by go_num, (by rw [HI2.out]; have := HBo.out; exact congrArg _ (idx_wrap' HS.out (by omega) (by omega))), HBd.out⟩
            case measure => simp [intOf]; omega
          · obtain rfl : k = m := by omega
            go_wp2
            go_ret2
            exact ⟨by rw [HR.out, HE4.out]; rfl, HB.out⟩
    · have h5 : ((m : Int) != (n : Int)) = true := by rw [bne_iff_ne]; omega
      have HE4 : Hid (ve = 13) := by show _ = _; rw [HE2.out, if_pos hmn]
      have HR : Hid (vz = 0) := by show _ = _; rw [← HE.out.1, idxZ, if_neg (by rw [HE.out.2, HE4.out]; decide)]
      clear HE2 hmn
      go_enter Tryz.func19, Tryz.ntmps19
      go_wp2_with fail
      refine HV.out.mono ?_
      rintro e w1 ⟨rfl, hb1⟩
      go_wp2
      go_ret2
      exact ⟨by rw [HR.out, HE4.out]; rfl, hb1⟩
  · have HE2 : Hid (ve = volE nm lo hi n ∧ vz = 0) := by
      have e1 : ve = volE nm lo hi n := by rw [← HE.out.2, idxE, if_pos h0]
      refine ⟨e1, ?_⟩
      rw [← HE.out.1, idxZ, HE.out.2, if_neg (by rw [e1]; exact h0)]
    have h1 : (volE nm lo hi n != 0) = true := by rw [bne_iff_ne]; exact h0
    generalize volE nm lo hi n = E at *
    generalize volZ nm lo hi n = V at *
    clear h0
    go_enter Tryz.func19, Tryz.ntmps19
    go_wp2_with fail
    refine HV.out.mono ?_
    rintro e w1 ⟨rfl, hb1⟩
    go_wp2
    go_ret2
    exact ⟨by rw [HE2.out.1, HE2.out.2]; rfl, hb1⟩
end Go.Proofs.YtmhggphkhabjlaaGreatDoor
end

/- The reference's At. -/
section
namespace Go.Proofs.YtmhggphkhabjlaaGreatDoor
open Go Go.RowKit Go.Deep

set_option maxRecDepth 100000 in
set_option maxHeartbeats 4000000 in
theorem r_At_bad (w : World) (A : Option Addr) (n cap : Nat) (nm : Nat → ByteArray) (lo hi : Nat → Int) (i : Int) (hd : DimsAt w A n nm lo hi) (hs : ∀ k, k < n → (nm k).size ≤ 9223372036854775807) (hn1 : n ≤ 1000) (he : atsE nm lo hi n i ≠ 0) :
    Calls Tryz.prog 21 #[.slice A n cap, .int .i64 i] w fun e w' => e = .returned (.tuple #[.slice none 0 0, .int .i64 (atsE nm lo hi n i)]) ∧ Below w.heap.size w w' := by
  have HV := Lib.hid (r_Volume w A n cap nm lo hi hd hs hn1)
  obtain ⟨ve, hve⟩ : ∃ ve, atsE nm lo hi n i = ve := ⟨_, rfl⟩
  have HE := Lib.hid hve
  rw [hve] at he
  rw [hve]
  clear hd hve hs
  by_cases h0 : volE nm lo hi n = 0
  · have hv := (vol_zero h0).2.2.2.2.1
    have HE2 : Hid (ve = if i < 0 ∨ prodZ lo hi n ≤ i then 3 else 0) := by show _ = _; rw [← HE.out, atsE, if_neg (by rw [h0]; simp)]
    rw [h0, hv] at HV
    clear h0 hv
    generalize prodZ lo hi n = P at *
    have h1 : i < 0 ∨ P ≤ i := by
      by_cases h : i < 0 ∨ P ≤ i
      · exact h
      · exact absurd (HE2.out.trans (if_neg h)) he
    have hr : ve = 3 := HE2.out.trans (if_pos h1)
    subst hr
    clear HE HE2 he
    go_enter Tryz.func21, Tryz.ntmps21
    go_wp2_with fail
    refine HV.out.mono ?_
    rintro e w1 ⟨rfl, hb1⟩
    by_cases g1 : i < 0
    · go_wp2
      go_ret2
      exact ⟨rfl, hb1⟩
    · have g2 : P ≤ i := by omega
      have g3 : i ≥ P := g2
      go_wp2
      go_ret2
      exact ⟨rfl, hb1⟩
  · have HE2 : Hid (ve = volE nm lo hi n) := by show _ = _; rw [← HE.out, atsE, if_pos h0]
    have h1 : (volE nm lo hi n != 0) = true := by rw [bne_iff_ne]; exact h0
    clear h0 HE he
    generalize volE nm lo hi n = E at *
    generalize volZ nm lo hi n = V at *
    go_enter Tryz.func21, Tryz.ntmps21
    go_wp2_with fail
    refine HV.out.mono ?_
    rintro e w1 ⟨rfl, hb1⟩
    go_wp2
    go_ret2
    exact ⟨by rw [HE2.out]; rfl, hb1⟩

set_option maxRecDepth 100000 in
set_option maxHeartbeats 4000000 in
theorem r_At (w : World) (A : Option Addr) (n cap : Nat) (nm : Nat → ByteArray) (lo hi : Nat → Int) (i : Int) (hd : DimsAt w A n nm lo hi) (hs : ∀ k, k < n → (nm k).size ≤ 9223372036854775807) (hn9 : n ≤ 1000) (he : atsE nm lo hi n i = 0) :
    Calls Tryz.prog 21 #[.slice A n cap, .int .i64 i] w fun e w' => ∃ b, e = .returned (.tuple #[.slice (some ⟨b, 0, none⟩) n n, .int .i64 0]) ∧ w.heap.size ≤ b ∧ w'.rowIs b 3 n (fun k => .int .i64 (atZ lo hi n i k)) ∧ Below w.heap.size w w' := by
  have hv0 : volE nm lo hi n = 0 := by
    unfold atsE at he
    by_cases h0 : volE nm lo hi n = 0
    · exact h0
    · rw [if_pos h0] at he; exact absurd he h0
  have hi0 : 0 ≤ i ∧ i < prodZ lo hi n := by
    unfold atsE at he
    rw [if_neg (by rw [hv0]; simp)] at he
    by_cases h1 : i < 0 ∨ prodZ lo hi n ≤ i
    · rw [if_pos h1] at he; exact absurd he (by decide)
    · omega
  have HZ := Lib.hid (vol_zero hv0)
  have HOp : Hid (openB hi n = false) := by
    show _ = _
    cases ho : openB hi n
    · rfl
    · rw [volE, if_neg (by rw [HZ.out.2.2.2.2.2.2.2]; simp), ho] at hv0; simp at hv0
  have HR := Lib.hid (remZ_bound HZ.out.2.2.1 hi0.1 hi0.2)
  have HV := Lib.hid (r_Volume w A n cap nm lo hi hd hs hn9)
  have HD := Lib.hid hd
  have hP : prodZ lo hi n ≤ 4611686018427387904 := HZ.out.2.2.2.2.2.2.1
  rw [hv0, HZ.out.2.2.2.2.1] at HV
  obtain ⟨P, hPe⟩ : ∃ P, prodZ lo hi n = P := ⟨_, rfl⟩
  rw [hPe] at HV hi0 hP
  have h4 : n ≤ 4 := HZ.out.2.1
  have h1n : 1 ≤ n := HZ.out.1
  clear hd he hv0 hPe hs
  have hmk := fun W => run_make_row' (P := Tryz.prog) 32 3 (.int .i64 0) 8 Tryz.underlying32 info_int rfl .i64 .i64 n (by omega) (by omega) W
  have g1 : ¬ i < 0 := by omega
  have g2 : ¬ i ≥ P := by omega
  obtain ⟨g3, g4⟩ := hi0
  go_enter Tryz.func21, Tryz.ntmps21
  go_wp2_with fail
  refine HV.out.mono ?_
  rintro e w1 ⟨rfl, hb1⟩
  have HB1 := Lib.hid hb1
  have hz1 := hb1.size
  clear hb1 HV
  go_wp2
  clear hmk
  have hw : IntKind.i64.wrap ((n : Int) - 1) = (n : Int) - 1 := by rw [w64 (by omega) (by omega)]
  go_loopw [1, 9, 10] (fun v s _ wr => ∃ (j : Nat) (f : Nat → Int), j ≤ n ∧ s = .int .i64 ((n : Int) - 1 - j) ∧ v = .int .i64 (remZ lo hi n i j) ∧ wr.rowIs w1.heap.size 3 n (fun t => .int .i64 (f t)) ∧ Hid (∀ t, n ≤ t + j → t < n → f t = atZ lo hi n i t) ∧ Hid (Below w.heap.size w wr)) (fun _ s _ _ => (intOf s + 1).toNat)
  case atStart => exact ⟨0, fun _ => 0, Nat.zero_le _, by simp, rfl, World.rowIs_made _ _ _ _, fun t h1 h2 => absurd h1 (by omega), HB1.out.alloc hz1 _⟩
  case round =>
    obtain ⟨j, f, hj, rfl, rfl, hrow, HF, HB⟩ := hrel
    have hsz : w1.heap.size < wr.heap.size := hrow.lt
    by_cases hlt : j < n
    · obtain ⟨p, hp⟩ : ∃ p : Nat, p = n - 1 - j := ⟨_, rfl⟩
      have hpn : p < n := by omega
      have hpi : (n : Int) - 1 - j = (p : Int) := by omega
      rw [hpi]
      have HPP := Lib.hid hp
      obtain ⟨bd, o, rfl, hbd, hc⟩ := HD.out (by omega)
      obtain ⟨d0, d1, d2⟩ := hc p hpn
      clear hc
      obtain ⟨q1, q2, q3, q4⟩ := HZ.out.2.2.1 p hpn
      have HE := Lib.hid (extZ_bound q1 q2 q3)
      have HQ := Lib.hid (And.intro q1 q2)
      have hEx := (ext_closed HZ.out.2.2.1 HOp.out hpn).1
      have HRj := Lib.hid (HR.out j (by omega))
      have HRn := Lib.hid (HR.out (j + 1) (by omega))
      have HA : Hid (atZ lo hi n i p = lo p + remZ lo hi n i j % extZ (lo p) (hi p) ∧ remZ lo hi n i (j + 1) = remZ lo hi n i j / extZ (lo p) (hi p)) := by rw [hp]; exact atZ_rem lo hi n i hlt
      have HPn := Lib.hid (prodZ_le HZ.out.2.2.1 HZ.out.2.2.2.1 (Nat.sub_le n (j + 1)))
      have HPj := Lib.hid (prodZ_le HZ.out.2.2.1 HZ.out.2.2.2.1 (Nat.sub_le n j))
      have hne : bd ≠ w1.heap.size := by omega
      clear hp hpi
      have HCC : Hid (∀ W, Below w.heap.size w W → W.cell? ⟨bd, o + p * 3, none⟩ = some (.string (nm p)) ∧ W.cell? ⟨bd, o + p * 3 + 1, none⟩ = some (.int .i64 (lo p)) ∧ W.cell? ⟨bd, o + p * 3 + 2, none⟩ = some (.int .i64 (hi p))) := fun W hW =>
        ⟨(hW.cell (p := ⟨bd, o + p * 3, none⟩) hbd).trans d0, (hW.cell (p := ⟨bd, o + p * 3 + 1, none⟩) hbd).trans d1, (hW.cell (p := ⟨bd, o + p * 3 + 2, none⟩) hbd).trans d2⟩
      obtain ⟨c0, c1, c2⟩ := HCC.out wr HB.out
      clear d0 d1 d2
      generalize nm p = s0 at *
      generalize lo p = l9 at *
      generalize hi p = h9 at *
      obtain ⟨E, hEe⟩ : ∃ E, extZ l9 h9 = E := ⟨_, rfl⟩
      rw [hEe] at HE HA hEx
      obtain ⟨I, hIe⟩ : ∃ I, remZ lo hi n i j = I := ⟨_, rfl⟩
      rw [hIe] at HRj HA ⊢
      clear hEe hIe
      have e0 : (E == 0) = false := by rw [beq_eq_false_iff_ne]; have := HE.out; omega
      have e1 : ¬ E = 0 := by have := HE.out; omega
      have hge : (p : Int) ≥ 0 := by omega
      have hS := hrow.cell (i := p) (by omega)
      have hZ := hrow.frozen p
      have hEpos : 1 ≤ E := HE.out.1
      have hI0 : 0 ≤ I := HRj.out.1
      have hw1 : IntKind.i64.wrap (h9 - l9) = h9 - l9 := by rw [w64 (by omega) (by omega)]
      have hw2 : IntKind.i64.wrap (h9 - l9 + 1) = E := by rw [w64 (by omega) (by omega), hEx]
      clear hEx q1 q2 q3 q4
      go_wp2
      go_quiet (fail)
      have HBd : Hid (Below w.heap.size w (wr.drewN nq)) := drewB HB.out _
      have hrowd : (wr.drewN nq).rowIs w1.heap.size 3 n (fun t => .int .i64 (f t)) := hrow
      clear hrow hS hZ c0 c1 c2
      generalize wr.drewN nq = wq at *
      obtain ⟨c0, c1, c2⟩ := HCC.out wq HBd.out
      have hS := hrowd.cell (i := p) (by omega)
      have hZ := hrowd.frozen p
      go_wp2_with fail
      go_still_tail 12, (by kernel_rfl)
      change wpList _ _ _ _ _ wq.drew
      have hrow2 : wq.drew.rowIs w1.heap.size 3 n fun j => .int .i64 (f j) := hrowd
      have hS2 := hrow2.cell (i := p) (by omega)
      have hZ2 := hrow2.frozen p
      have HBd2 : Hid (Below w.heap.size w wq.drew) := Below.drew HBd.out
      clear hrowd hS hZ
      generalize hw2 : wq.drew = w2 at *
      have hwv : wrap64 (l9 + I % E) = l9 + I % E := by
        have := HA.out; have := HQ.out; have m1 := Int.emod_nonneg I (by omega : E ≠ 0); have m2 := Int.emod_lt_of_pos I (by omega : 0 < E); have := HE.out
        unfold wrap64; omega
      have hrow5 := set_int hrow2 p (l9 + I % E) (.int .i64 (wrap64 (l9 + I % E))) (by rw [hwv])
      have HB5 : Hid (Below w.heap.size w (w2.setCell ⟨w1.heap.size, p, none⟩ (.int .i64 (wrap64 (l9 + I % E))))) := HBd2.out.setCell (by show w.heap.size ≤ w1.heap.size; omega) _
      clear hwv
      go_wp2
      go_roundw
      case rel =>
        refine ⟨j + 1, _, by omega, ?_, ?_, hrow5, fun t h1 h2 => ?_, HB5.out⟩
        · have := HPP.out
          exact congrArg _ (by omega)
        · have h5 := HA.out.2
          rw [Int.tdiv_eq_ediv_of_nonneg hI0, h5]
          have h6 := HRn.out
          have h7 := HPn.out
          rw [h5] at h6
          exact congrArg _ (by unfold wrap64; omega)
        · unfold updZ
          by_cases h3 : t = p
          · rw [if_pos h3, h3, HA.out.1]
          · rw [if_neg h3]
            exact HF.out t (by have := HPP.out; omega) h2
      case measure => have := HPP.out; simp [intOf]
    · obtain rfl : j = n := by omega
      go_wp2
      go_ret2
      exact ⟨_, rfl, hz1, hrow.congr fun t ht => by rw [HF.out t (by omega) ht], HB.out⟩
end Go.Proofs.YtmhggphkhabjlaaGreatDoor
end
