/- The number of coordinates. -/
import Derived.Test.YtmhggphkhabjlaaGreatDoorZIdxM
import Derived.Test.YtmhggphkhabjlaaGreatDoorZSpG
import Derived.StillTailTactics
import Derived.Test.YtmhggphkhabjlaaGreatDoorZSpH
import Derived.Test.YtmhggphkhabjlaaGreatDoorZCmpS
import Derived.Test.YtmhggphkhabjlaaGreatDoorZSch

/- The number of coordinates. -/
section
namespace Go.Proofs.YtmhggphkhabjlaaGreatDoor
open Go Go.RowKit Go.Deep

theorem vol_zero {nm : Nat → ByteArray} {lo hi : Nat → Int} {n : Nat} (h : volE nm lo hi n = 0) : 1 ≤ n ∧ n ≤ 4 ∧ DimsOk lo hi n ∧ overB lo hi n = false ∧ volZ nm lo hi n = prodZ lo hi n ∧ 1 ≤ prodZ lo hi n ∧ prodZ lo hi n ≤ 4611686018427387904 ∧ dimsZ nm lo hi n = 0 := by
  have hv : volZ nm lo hi n = prodZ lo hi n := if_pos h
  unfold volE at h
  by_cases h0 : dimsZ nm lo hi n = 0
  · rw [if_neg (by rw [h0]; simp)] at h
    cases ho : openB hi n
    · rw [ho] at h
      cases hv2 : overB lo hi n
      · obtain ⟨a1, a2, a3⟩ := dimsZ_ok h0
        exact ⟨a1, a2, a3, rfl, hv, (prodZ_bound a3 hv2).1, (prodZ_bound a3 hv2).2, h0⟩
      · rw [hv2] at h; exact absurd h (by decide)
    · rw [ho] at h; simp at h
  · rw [if_pos h0] at h; exact absurd h h0
theorem prodZ_le {lo hi : Nat → Int} {n : Nat} (hok : DimsOk lo hi n) (ho : overB lo hi n = false) {k : Nat} (hk : k ≤ n) : 1 ≤ prodZ lo hi k ∧ prodZ lo hi k ≤ 4611686018427387904 :=
  prodZ_bound (fun j hj => hok j (by omega)) (by
    cases h : overB lo hi k
    · rfl
    · exact absurd ((overB_le h hk).symm.trans ho) (by decide))
noncomputable def idxE (nm : Nat → ByteArray) (lo hi : Nat → Int) (n : Nat) (xs : Nat → Int) (m : Nat) : Int := if volE nm lo hi n ≠ 0 then volE nm lo hi n else placeEr lo hi xs n m
noncomputable def idxZ (nm : Nat → ByteArray) (lo hi : Nat → Int) (n : Nat) (xs : Nat → Int) (m : Nat) : Int := if idxE nm lo hi n xs m = 0 then idxTo lo hi xs n else 0
theorem place_zero {lo hi xs : Nat → Int} {n m : Nat} (h : placeEr lo hi xs n m = 0) : m = n ∧ inTo lo hi xs n = true := by
  unfold placeEr at h
  by_cases h1 : n = m
  · rw [if_neg (by omega)] at h
    cases h2 : inTo lo hi xs n
    · rw [h2] at h; exact absurd h (by decide)
    · exact ⟨h1.symm, rfl⟩
  · rw [if_pos h1] at h; exact absurd h (by decide)
theorem inTo_mono {lo hi xs : Nat → Int} {k n : Nat} (h : inTo lo hi xs n = true) (hk : k ≤ n) : inTo lo hi xs k = true := by
  cases h2 : inTo lo hi xs k
  · exact absurd (inTo_le h2 hk) (by rw [h]; decide)
  · rfl

theorem idx_wrap {p z l I : Int} (h : I = p + (z - l)) (h1 : 0 ≤ I) (h2 : I ≤ 4611686018427387904) (h3 : -1073741824 ≤ l) (h4 : l ≤ 1073741824) (h5 : l ≤ z) (h6 : z ≤ 1073741824) : IntKind.i64.wrap (IntKind.i64.wrap (IntKind.i64.wrap p + z) - l) = I := by
  rw [w64 (n := p) (by omega) (by omega), w64 (n := p + z) (by omega) (by omega), w64 (by omega) (by omega)]
  omega

set_option maxRecDepth 100000 in
set_option maxHeartbeats 4000000 in
theorem s_Index (w : World) (A X : Option Addr) (n cap m mc : Nat) (nm : Nat → ByteArray) (lo hi xs : Nat → Int) (hd : DimsAt w A n nm lo hi) (hx : IntsAt w X m xs) (hn1 : n ≤ 1000) (hm1 : m ≤ 1000) :
    Calls Tryz.prog 18 #[.slice A n cap, .slice X m mc] w fun e w' => e = .returned (.tuple #[.int .i64 (idxZ nm lo hi n xs m), .int .i64 (idxE nm lo hi n xs m)]) ∧ Below w.heap.size w w' := by
  have HV := Lib.hid (s_Volume w A n cap nm lo hi hd)
  have HP : Hid (∀ W, Below w.heap.size w W → Calls Tryz.prog 56 #[.slice A n cap, .slice X m mc] W fun e w' => e = .returned (.int .i64 (placeEr lo hi xs n m)) ∧ Below W.heap.size W w') := fun W hW => s_placeError W A X n cap m mc nm lo hi xs (hd.below hW) (hx.below hW) hn1 hm1
  have HX := Lib.hid s_extent
  have HD := Lib.hid hd
  have HI := Lib.hid hx
  clear hd hx
  obtain ⟨vz, hvz⟩ : ∃ vz, idxZ nm lo hi n xs m = vz := ⟨_, rfl⟩
  obtain ⟨ve, hve⟩ : ∃ ve, idxE nm lo hi n xs m = ve := ⟨_, rfl⟩
  rw [hvz, hve]
  have HE : Hid (idxZ nm lo hi n xs m = vz ∧ idxE nm lo hi n xs m = ve) := ⟨hvz, hve⟩
  clear hvz hve
  by_cases h0 : volE nm lo hi n = 0
  · have HZ := Lib.hid (vol_zero h0)
    have HE2 : Hid (ve = placeEr lo hi xs n m) := by show _ = _; rw [← HE.out.2, idxE, if_neg (by rw [h0]; simp)]
    have h4 : n ≤ 4 := HZ.out.2.1
    rw [h0] at HV
    clear h0
    generalize volZ nm lo hi n = V at *
    go_enter Tryz.func18, Tryz.ntmps18
    go_wp2_with fail
    refine HV.out.mono ?_
    rintro e w1 ⟨rfl, hb1⟩
    have HB1 := Lib.hid hb1
    clear hb1 HV
    go_wp2_with fail
    refine (HP.out _ HB1.out).mono ?_
    rintro e w2 ⟨rfl, hb2⟩
    have HB2 : Hid (Below w.heap.size w w2) := st HB1.out hb2
    clear hb2 HB1 HP
    by_cases h1 : placeEr lo hi xs n m = 0
    · have HN := Lib.hid (place_zero h1)
      rw [h1] at HE2
      have HR : Hid (vz = idxTo lo hi xs n) := by show _ = _; rw [← HE.out.1, idxZ, if_pos (by rw [HE.out.2, HE2.out])]
      rw [h1]
      clear h1
      obtain rfl : m = n := HN.out.1
      go_wp2
      go_loopw [9, 10, 11, 28] (fun v _ _ i wr => ∃ k : Nat, k ≤ m ∧ i = .int .i64 k ∧ v = .int .i64 (idxTo lo hi xs k) ∧ Hid (Below w.heap.size w wr)) (fun _ _ _ i _ => m - (intOf i).toNat)
      case atStart => exact ⟨0, Nat.zero_le _, rfl, rfl, HB2.out⟩
      case round =>
        obtain ⟨k, hk, rfl, rfl, HB⟩ := hrel
        by_cases hlt : k < m
        · obtain ⟨bd, o, rfl, hbd, hc⟩ := (HD.out.below HB.out) (by omega)
          obtain ⟨c0, c1, c2⟩ := hc k hlt
          clear hc
          obtain ⟨bx, ox, rfl, hbx, hcx⟩ := (HI.out.below HB.out) (by omega)
          have x0 := hcx k hlt
          clear hcx
          have HBo : Hid (0 ≤ idxTo lo hi xs k ∧ idxTo lo hi xs k < prodZ lo hi k ∧ 0 ≤ idxTo lo hi xs (k + 1) ∧ idxTo lo hi xs (k + 1) < prodZ lo hi (k + 1) ∧ prodZ lo hi k ≤ 4611686018427387904 ∧ prodZ lo hi (k + 1) ≤ 4611686018427387904) := by
            have a := fun j (hj : j ≤ m) => idxTo_bound (fun i hi => HZ.out.2.2.1 i (by omega)) (inTo_mono HN.out.2 hj)
            have b := fun j (hj : j ≤ m) => prodZ_le HZ.out.2.2.1 HZ.out.2.2.2.1 hj
            exact ⟨(a k hk).1, (a k hk).2, (a (k + 1) hlt).1, (a (k + 1) hlt).2, (b k hk).2, (b (k + 1) hlt).2⟩
          have HS : Hid (idxTo lo hi xs (k + 1) = idxTo lo hi xs k * extZ (lo k) (hi k) + (xs k - lo k)) := rfl
          obtain ⟨q1, q2, q3, q4⟩ := HZ.out.2.2.1 k hlt
          have HQ := Lib.hid (And.intro q1 (And.intro q2 (inTo_ok HN.out.2 k hlt)))
          have hl := lastZ_le (hi k)
          have HXk := Lib.hid (fun s W => HX.out s (lo k) (hi k) W q1 q3 q2)
          clear q1 q2 q3 q4
          generalize nm k = s at *
          generalize lo k = l0 at *
          generalize hi k = h0 at *
          generalize xs k = z at *
          generalize lastZ h0 = L at *
          generalize idxTo lo hi xs k = I at *
          obtain ⟨I', hI⟩ : ∃ I', idxTo lo hi xs (k + 1) = I' := ⟨_, rfl⟩
          have HI2 := Lib.hid hI
          rw [hI] at HBo HS
          clear hI
          generalize prodZ lo hi k = P at *
          generalize prodZ lo hi (k + 1) = P' at *
          generalize extZ l0 h0 = E at *
          have KB := Lib.hid (dim_box wr s l0 h0)
          have HBA : Hid (Below w.heap.size w (wr.alloc (.cells #[.string s, .int .i64 l0, .int .i64 h0] 28))) := HB.out.alloc HB.out.size _
          have HX0 : Hid (∀ W, Below wr.heap.size wr W → W.cell? ⟨bx, ox + k, none⟩ = some (.int .i64 z)) := fun W hW => (hW.cell (p := ⟨bx, ox + k, none⟩) hbx).trans x0
          have HBW : Hid (Below wr.heap.size wr (wr.alloc (.cells #[.string s, .int .i64 l0, .int .i64 h0] 28))) := (Below.refl _ _).alloc (Nat.le_refl _) _
          go_wp2_with fail
          clear c0 c1 c2 x0
          generalize wr.alloc (.cells #[.string s, .int .i64 l0, .int .i64 h0] 28) = W0 at *
          have B0d : Below W0.heap.size W0 W0.drew := Below.drew (Below.refl _ _)
          go_region_held3 (fun W => W.cell? ⟨wr.heap.size, 0, none⟩ = some (.string s) ∧ W.cell? ⟨wr.heap.size, 1, none⟩ = some (.int .i64 l0) ∧ W.cell? ⟨wr.heap.size, 2, none⟩ = some (.int .i64 h0) ∧ W.cell? ⟨bx, ox + k, none⟩ = some (.int .i64 z))
            (first | exact ⟨(KB.out _ B1).1, (KB.out _ B1).2.1, (KB.out _ B1).2.2, HX0.out _ (st HBW.out B1)⟩ | exact ⟨(KB.out _ B0d).1, (KB.out _ B0d).2.1, (KB.out _ B0d).2.2, HX0.out _ (st HBW.out B0d)⟩ | exact ⟨(KB.out _ (Below.refl _ _)).1, (KB.out _ (Below.refl _ _)).2.1, (KB.out _ (Below.refl _ _)).2.2, HX0.out _ HBW.out⟩)
            (first
              | (go_at_call 55; refine (HXk.out _ _).mono ?_; rintro e w3 ⟨rfl, hb3⟩; have B1 : Below W0.heap.size W0 w3 := st B0d hb3))
          all_goals
            go_wp2
            go_roundw
            case rel => exact ⟨k + 1, by omega, by go_num, (by rw [HI2.out]; have := HBo.out; have := HQ.out; exact congrArg _ (idx_wrap HS.out (by omega) (by omega) (by omega) (by omega) (by omega) (by omega))), st HBA.out B1⟩
            case measure => simp [intOf]; omega
        · obtain rfl : k = m := by omega
          go_wp2
          go_ret2
          exact ⟨by rw [HR.out, HE2.out]; rfl, HB.out⟩
    · have h2 : (placeEr lo hi xs n m != 0) = true := by rw [bne_iff_ne]; exact h1
      have HR : Hid (vz = 0) := by show _ = _; rw [← HE.out.1, idxZ, if_neg (by rw [HE.out.2, HE2.out]; exact h1)]
      generalize placeEr lo hi xs n m = E at *
      go_wp2
      go_ret2
      exact ⟨by rw [HR.out, HE2.out]; rfl, HB2.out⟩
  · have HE2 : Hid (ve = volE nm lo hi n ∧ vz = 0) := by
      have e1 : ve = volE nm lo hi n := by rw [← HE.out.2, idxE, if_pos h0]
      refine ⟨e1, ?_⟩
      rw [← HE.out.1, idxZ, HE.out.2, if_neg (by rw [e1]; exact h0)]
    have h1 : (volE nm lo hi n != 0) = true := by rw [bne_iff_ne]; exact h0
    generalize volE nm lo hi n = E at *
    generalize volZ nm lo hi n = V at *
    clear h0
    go_enter Tryz.func18, Tryz.ntmps18
    go_wp2_with fail
    refine HV.out.mono ?_
    rintro e w1 ⟨rfl, hb1⟩
    go_wp2
    go_ret2
    exact ⟨by rw [HE2.out.1, HE2.out.2]; rfl, hb1⟩
end Go.Proofs.YtmhggphkhabjlaaGreatDoor
end

/- The coordinates with a number. -/
section
namespace Go.Proofs.YtmhggphkhabjlaaGreatDoor
open Go Go.RowKit Go.Deep

noncomputable def atsE (nm : Nat → ByteArray) (lo hi : Nat → Int) (n : Nat) (i : Int) : Int := if volE nm lo hi n ≠ 0 then volE nm lo hi n else if i < 0 ∨ prodZ lo hi n ≤ i then 3 else 0
set_option maxRecDepth 100000 in
set_option maxHeartbeats 4000000 in
theorem s_At_bad (w : World) (A : Option Addr) (n cap : Nat) (nm : Nat → ByteArray) (lo hi : Nat → Int) (i : Int) (hd : DimsAt w A n nm lo hi) (he : atsE nm lo hi n i ≠ 0) :
    Calls Tryz.prog 20 #[.slice A n cap, .int .i64 i] w fun e w' => e = .returned (.tuple #[.slice none 0 0, .int .i64 (atsE nm lo hi n i)]) ∧ Below w.heap.size w w' := by
  have HV := Lib.hid (s_Volume w A n cap nm lo hi hd)
  obtain ⟨ve, hve⟩ : ∃ ve, atsE nm lo hi n i = ve := ⟨_, rfl⟩
  have HE := Lib.hid hve
  rw [hve] at he
  rw [hve]
  clear hd hve
  by_cases h0 : volE nm lo hi n = 0
  · have hv := (vol_zero h0).2.2.2.2.1
    have HE2 : Hid (ve = if i < 0 ∨ prodZ lo hi n ≤ i then 3 else 0) := by show _ = _; rw [← HE.out, atsE, if_neg (by rw [h0]; simp)]
    rw [h0, hv] at HV
    clear h0 hv
    generalize prodZ lo hi n = P at *
    have h1 : i < 0 ∨ P ≤ i := by
      by_cases h : i < 0 ∨ P ≤ i
      · exact h
      · exact absurd (HE2.out.trans (if_neg h)) he
    have hr : ve = 3 := HE2.out.trans (if_pos h1)
    subst hr
    clear HE HE2 he
    go_enter Tryz.func20, Tryz.ntmps20
    go_wp2_with fail
    refine HV.out.mono ?_
    rintro e w1 ⟨rfl, hb1⟩
    by_cases g1 : i < 0
    · go_wp2
      go_ret2
      exact ⟨rfl, hb1⟩
    · have g2 : P ≤ i := by omega
      have g3 : i ≥ P := g2
      go_wp2
      go_ret2
      exact ⟨rfl, hb1⟩
  · have HE2 : Hid (ve = volE nm lo hi n) := by show _ = _; rw [← HE.out, atsE, if_pos h0]
    have h1 : (volE nm lo hi n != 0) = true := by rw [bne_iff_ne]; exact h0
    clear h0 HE he
    generalize volE nm lo hi n = E at *
    generalize volZ nm lo hi n = V at *
    go_enter Tryz.func20, Tryz.ntmps20
    go_wp2_with fail
    refine HV.out.mono ?_
    rintro e w1 ⟨rfl, hb1⟩
    go_wp2
    go_ret2
    exact ⟨by rw [HE2.out]; rfl, hb1⟩

theorem atZ_rem (lo hi : Nat → Int) (n : Nat) (i : Int) {j : Nat} (hj : j < n) : atZ lo hi n i (n - 1 - j) = lo (n - 1 - j) + remZ lo hi n i j % extZ (lo (n - 1 - j)) (hi (n - 1 - j)) ∧ remZ lo hi n i (j + 1) = remZ lo hi n i j / extZ (lo (n - 1 - j)) (hi (n - 1 - j)) := by
  refine ⟨?_, rfl⟩
  unfold atZ
  rw [show n - 1 - (n - 1 - j) = j by omega]
set_option maxRecDepth 100000 in
set_option maxHeartbeats 4000000 in
theorem s_At (w : World) (A : Option Addr) (n cap : Nat) (nm : Nat → ByteArray) (lo hi : Nat → Int) (i : Int) (hd : DimsAt w A n nm lo hi) (he : atsE nm lo hi n i = 0) :
    Calls Tryz.prog 20 #[.slice A n cap, .int .i64 i] w fun e w' => ∃ b, e = .returned (.tuple #[.slice (some ⟨b, 0, none⟩) n n, .int .i64 0]) ∧ w.heap.size ≤ b ∧ w'.rowIs b 3 n (fun k => .int .i64 (atZ lo hi n i k)) ∧ Below w.heap.size w w' := by
  have hv0 : volE nm lo hi n = 0 := by
    unfold atsE at he
    by_cases h0 : volE nm lo hi n = 0
    · exact h0
    · rw [if_pos h0] at he; exact absurd he h0
  have hi0 : 0 ≤ i ∧ i < prodZ lo hi n := by
    unfold atsE at he
    rw [if_neg (by rw [hv0]; simp)] at he
    by_cases h1 : i < 0 ∨ prodZ lo hi n ≤ i
    · rw [if_pos h1] at he; exact absurd he (by decide)
    · omega
  have HZ := Lib.hid (vol_zero hv0)
  have HR := Lib.hid (remZ_bound HZ.out.2.2.1 hi0.1 hi0.2)
  have HV := Lib.hid (s_Volume w A n cap nm lo hi hd)
  have HX := Lib.hid s_extent
  have HD := Lib.hid hd
  have hP : prodZ lo hi n ≤ 4611686018427387904 := HZ.out.2.2.2.2.2.2.1
  rw [hv0, HZ.out.2.2.2.2.1] at HV
  obtain ⟨P, hPe⟩ : ∃ P, prodZ lo hi n = P := ⟨_, rfl⟩
  rw [hPe] at HV hi0 hP
  have h4 : n ≤ 4 := HZ.out.2.1
  have h1n : 1 ≤ n := HZ.out.1
  clear hd he hv0 hPe
  have hmk := fun W => run_make_row' (P := Tryz.prog) 32 3 (.int .i64 0) 8 Tryz.underlying32 info_int rfl .i64 .i64 n (by omega) (by omega) W
  have g1 : ¬ i < 0 := by omega
  have g2 : ¬ i ≥ P := by omega
  obtain ⟨g3, g4⟩ := hi0
  go_enter Tryz.func20, Tryz.ntmps20
  go_wp2_with fail
  refine HV.out.mono ?_
  rintro e w1 ⟨rfl, hb1⟩
  have HB1 := Lib.hid hb1
  have hz1 := hb1.size
  clear hb1 HV
  go_wp2
  clear hmk
  have hw : IntKind.i64.wrap ((n : Int) - 1) = (n : Int) - 1 := by rw [w64 (by omega) (by omega)]
  go_loopw [1, 9] (fun v s wr => ∃ (j : Nat) (f : Nat → Int), j ≤ n ∧ s = .int .i64 ((n : Int) - 1 - j) ∧ v = .int .i64 (remZ lo hi n i j) ∧ wr.rowIs w1.heap.size 3 n (fun t => .int .i64 (f t)) ∧ Hid (∀ t, n ≤ t + j → t < n → f t = atZ lo hi n i t) ∧ Hid (Below w.heap.size w wr)) (fun _ s _ => (intOf s + 1).toNat)
  case atStart => exact ⟨0, fun _ => 0, Nat.zero_le _, by simp, rfl, World.rowIs_made _ _ _ _, fun t h1 h2 => absurd h1 (by omega), HB1.out.alloc hz1 _⟩
  case round =>
    obtain ⟨j, f, hj, rfl, rfl, hrow, HF, HB⟩ := hrel
    have hsz : w1.heap.size < wr.heap.size := hrow.lt
    by_cases hlt : j < n
    · obtain ⟨p, hp⟩ : ∃ p : Nat, p = n - 1 - j := ⟨_, rfl⟩
      have hpn : p < n := by omega
      have hpi : (n : Int) - 1 - j = (p : Int) := by omega
      rw [hpi]
      have HPP := Lib.hid hp
      obtain ⟨bd, o, rfl, hbd, hc⟩ := HD.out (by omega)
      obtain ⟨d0, d1, d2⟩ := hc p hpn
      clear hc
      obtain ⟨q1, q2, q3, q4⟩ := HZ.out.2.2.1 p hpn
      have HE := Lib.hid (extZ_bound q1 q2 q3)
      have HQ := Lib.hid (And.intro q1 q2)
      have HXk := Lib.hid (fun s W => HX.out s (lo p) (hi p) W q1 q3 q2)
      have HRj := Lib.hid (HR.out j (by omega))
      have HRn := Lib.hid (HR.out (j + 1) (by omega))
      have HA : Hid (atZ lo hi n i p = lo p + remZ lo hi n i j % extZ (lo p) (hi p) ∧ remZ lo hi n i (j + 1) = remZ lo hi n i j / extZ (lo p) (hi p)) := by rw [hp]; exact atZ_rem lo hi n i hlt
      have HPn := Lib.hid (prodZ_le HZ.out.2.2.1 HZ.out.2.2.2.1 (Nat.sub_le n (j + 1)))
      have HPj := Lib.hid (prodZ_le HZ.out.2.2.1 HZ.out.2.2.2.1 (Nat.sub_le n j))
      have hne : bd ≠ w1.heap.size := by omega
      clear hp hpi
      have HCC : Hid (∀ W, Below w.heap.size w W → W.cell? ⟨bd, o + p * 3, none⟩ = some (.string (nm p)) ∧ W.cell? ⟨bd, o + p * 3 + 1, none⟩ = some (.int .i64 (lo p)) ∧ W.cell? ⟨bd, o + p * 3 + 2, none⟩ = some (.int .i64 (hi p))) := fun W hW =>
        ⟨(hW.cell (p := ⟨bd, o + p * 3, none⟩) hbd).trans d0, (hW.cell (p := ⟨bd, o + p * 3 + 1, none⟩) hbd).trans d1, (hW.cell (p := ⟨bd, o + p * 3 + 2, none⟩) hbd).trans d2⟩
      obtain ⟨c0, c1, c2⟩ := HCC.out wr HB.out
      clear d0 d1 d2
      generalize nm p = s0 at *
      generalize lo p = l9 at *
      generalize hi p = h9 at *
      obtain ⟨E, hEe⟩ : ∃ E, extZ l9 h9 = E := ⟨_, rfl⟩
      rw [hEe] at HE HXk HA
      obtain ⟨I, hIe⟩ : ∃ I, remZ lo hi n i j = I := ⟨_, rfl⟩
      rw [hIe] at HRj HA ⊢
      clear hEe hIe
      have e0 : (E == 0) = false := by rw [beq_eq_false_iff_ne]; have := HE.out; omega
      have e1 : ¬ E = 0 := by have := HE.out; omega
      have hge : (p : Int) ≥ 0 := by omega
      have hS := hrow.cell (i := p) (by omega)
      have hZ := hrow.frozen p
      go_wp2_with fail
      have B0d : Below wr.heap.size wr wr.drew := Below.drew (Below.refl _ _)
      have HKS : Hid (∀ W u, Below wr.heap.size wr W → (W.setCell ⟨w1.heap.size, p, none⟩ u).cell? ⟨bd, o + p * 3, none⟩ = some (.string s0) ∧ (W.setCell ⟨w1.heap.size, p, none⟩ u).cell? ⟨bd, o + p * 3 + 1, none⟩ = some (.int .i64 l9) ∧ (W.setCell ⟨w1.heap.size, p, none⟩ u).cell? ⟨bd, o + p * 3 + 2, none⟩ = some (.int .i64 h9)) := fun W u hW => by
        have hs := blk_setCell_other W ⟨w1.heap.size, p, none⟩ u bd hne
        rw [cell_blk hs, cell_blk hs, cell_blk hs]
        exact HCC.out W (st HB.out hW)
      have HRow : Hid (∀ W, Below wr.heap.size wr W → W.rowIs w1.heap.size 3 n (fun t => .int .i64 (f t))) := fun W hW => hrow.of_block (hW.block _ hsz)
      have hEpos : 1 ≤ E := HE.out.1
      have hI0 : 0 ≤ I := HRj.out.1
      go_region_held3 (fun W => W.cell? ⟨bd, o + p * 3, none⟩ = some (.string s0) ∧ W.cell? ⟨bd, o + p * 3 + 1, none⟩ = some (.int .i64 l9) ∧ W.cell? ⟨bd, o + p * 3 + 2, none⟩ = some (.int .i64 h9))
        (first | exact HKS.out _ _ B1 | exact HCC.out _ (st HB.out B1) | exact HCC.out _ (st HB.out B0d) | exact HCC.out _ HB.out)
        (first
          | (go_at_call 55; refine (HXk.out _ _).mono ?_; rintro e w3 ⟨rfl, hb3⟩; have B1 : Below wr.heap.size wr w3 := st B0d hb3; have hS3 := (HRow.out _ B1).cell (i := p) (by omega); have hZ3 := (HRow.out _ B1).frozen p))
      all_goals
        have hwv : wrap64 (l9 + I % E) = l9 + I % E := by
          have := HA.out; have := HQ.out; have m1 := Int.emod_nonneg I (by omega : E ≠ 0); have m2 := Int.emod_lt_of_pos I (by omega : 0 < E); have := HE.out
          unfold wrap64; omega
        have hrow4 := set_int (HRow.out _ B1) p (l9 + I % E) (.int .i64 (wrap64 (l9 + I % E))) (by rw [hwv])
        obtain ⟨k0, k1, k2⟩ := HKS.out w3 (.int .i64 (wrap64 (l9 + I % E))) B1
        have HB4 : Hid (Below w.heap.size w (w3.setCell ⟨w1.heap.size, p, none⟩ (.int .i64 (wrap64 (l9 + I % E))))) := (st HB.out B1).setCell (by show w.heap.size ≤ w1.heap.size; omega) _
        clear hwv B1 c0 c1 c2 hS hZ hrow HRow HKS
        go_wp2_with fail
        generalize w3.setCell ⟨w1.heap.size, p, none⟩ (.int .i64 (wrap64 (l9 + I % E))) = w4 at *
        refine (HXk.out _ _).mono ?_
        rintro e w5 ⟨rfl, hb5⟩
        have hrow5 := hrow4.of_block (hb5.block _ hrow4.lt)
        have HB5 : Hid (Below w.heap.size w w5) := st HB4.out hb5
        clear hb5 hrow4 k0 k1 k2
        go_wp2
        go_roundw
        case rel =>
          refine ⟨j + 1, _, by omega, ?_, ?_, hrow5, fun t h1 h2 => ?_, HB5.out⟩
          · have := HPP.out
            exact congrArg _ (by omega)
          · have h5 := HA.out.2
            rw [Int.tdiv_eq_ediv_of_nonneg hI0, h5]
            have h6 := HRn.out
            have h7 := HPn.out
            rw [h5] at h6
            exact congrArg _ (by unfold wrap64; omega)
          · unfold updZ
            by_cases h3 : t = p
            · rw [if_pos h3, h3, HA.out.1]
            · rw [if_neg h3]
              exact HF.out t (by have := HPP.out; omega) h2
        case measure => have := HPP.out; simp [intOf]
    · obtain rfl : j = n := by omega
      go_wp2
      go_ret2
      exact ⟨_, rfl, hz1, hrow.congr fun t ht => by rw [HF.out t (by omega) ht], HB.out⟩
end Go.Proofs.YtmhggphkhabjlaaGreatDoor
end

/- Coordinates with numbers are compared as the numbers are. -/
section
namespace Go.Proofs.YtmhggphkhabjlaaGreatDoor
open Go Go.RowKit Go.Deep

theorem cmp_at {lo hi : Nat → Int} {n : Nat} {i i' : Int} (hok : DimsOk lo hi n) (h1 : 0 ≤ i) (h2 : i < prodZ lo hi n) (h3 : 0 ≤ i') (h4 : i' < prodZ lo hi n) : ∀ k, k ≤ n → cmpTo (atZ lo hi n i) (atZ lo hi n i') n k = cmpI (remZ lo hi n i (n - k)) (remZ lo hi n i' (n - k))
  | 0, _ => by
    obtain ⟨g1, g2⟩ := remZ_bound hok h1 h2 n (Nat.le_refl _)
    obtain ⟨g3, g4⟩ := remZ_bound hok h3 h4 n (Nat.le_refl _)
    rw [Nat.sub_self, prodZ] at g2 g4
    rw [cmpTo, Nat.sub_zero, show remZ lo hi n i n = 0 by omega, show remZ lo hi n i' n = 0 by omega]
    rfl
  | k + 1, hk => by
    obtain ⟨a1, a2, a3, _⟩ := hok k (by omega)
    have hE := extZ_bound a1 a2 a3
    have ih := cmp_at hok h1 h2 h3 h4 k (by omega)
    have e1 : remZ lo hi n i (n - k) = remZ lo hi n i (n - (k + 1)) / extZ (lo k) (hi k) := by
      rw [show n - k = (n - (k + 1)) + 1 by omega, remZ, show n - 1 - (n - (k + 1)) = k by omega]
    have e2 : remZ lo hi n i' (n - k) = remZ lo hi n i' (n - (k + 1)) / extZ (lo k) (hi k) := by
      rw [show n - k = (n - (k + 1)) + 1 by omega, remZ, show n - 1 - (n - (k + 1)) = k by omega]
    have e3 : atZ lo hi n i k = lo k + remZ lo hi n i (n - (k + 1)) % extZ (lo k) (hi k) := by unfold atZ; rw [show n - 1 - k = n - (k + 1) by omega]
    have e4 : atZ lo hi n i' k = lo k + remZ lo hi n i' (n - (k + 1)) % extZ (lo k) (hi k) := by unfold atZ; rw [show n - 1 - k = n - (k + 1) by omega]
    rw [e1, e2] at ih
    rw [cmpTo, ih, e3, e4, if_neg (by omega : ¬ n ≤ k)]
    generalize remZ lo hi n i (n - (k + 1)) = a at *
    generalize remZ lo hi n i' (n - (k + 1)) = b at *
    generalize extZ (lo k) (hi k) = e at *
    by_cases h : a / e = b / e
    · rw [if_pos (cmpI_zero.2 h)]
      exact (cmpI_of_mod (l := lo k) h).symm
    · rw [if_neg (fun h5 => h (cmpI_zero.1 h5))]
      exact (cmpI_of_div (by omega) h).symm
theorem cmp_ats {lo hi : Nat → Int} {n : Nat} {i i' : Int} (hok : DimsOk lo hi n) (h1 : 0 ≤ i) (h2 : i < prodZ lo hi n) (h3 : 0 ≤ i') (h4 : i' < prodZ lo hi n) : cmpS n n (atZ lo hi n i) (atZ lo hi n i') = cmpI i i' := by
  have h := cmp_at hok h1 h2 h3 h4 n (Nat.le_refl _)
  rw [Nat.sub_self] at h
  unfold cmpS
  rw [h]
  change (if cmpI i i' = 0 then (if n < n then (-1 : Int) else 0) else cmpI i i') = cmpI i i'
  by_cases h5 : cmpI i i' = 0
  · rw [if_pos h5, if_neg (by omega), h5]
  · rw [if_neg h5]
theorem index_of_at {nm : Nat → ByteArray} {lo hi : Nat → Int} {n : Nat} {i : Int} (hv : volE nm lo hi n = 0) (h1 : 0 ≤ i) (h2 : i < prodZ lo hi n) : idxE nm lo hi n (atZ lo hi n i) n = 0 ∧ idxZ nm lo hi n (atZ lo hi n i) n = i ∧ atsE nm lo hi n i = 0 := by
  have hz := vol_zero hv
  have e1 : idxE nm lo hi n (atZ lo hi n i) n = 0 := by
    rw [idxE, if_neg (by rw [hv]; simp), placeEr, if_neg (by simp), at_in hz.2.2.1 n (Nat.le_refl _)]
    rfl
  refine ⟨e1, ?_, ?_⟩
  · rw [idxZ, if_pos e1, idx_of_at hz.2.2.1 h1 h2]
  · rw [atsE, if_neg (by rw [hv]; simp), if_neg (by omega)]
end Go.Proofs.YtmhggphkhabjlaaGreatDoor
end

/- What the laws examine: the sizes of schemas. -/
section
namespace Go.Proofs.YtmhggphkhabjlaaGreatDoor
open Go Go.RowKit Go.Deep

set_option maxHeartbeats 1000000 in
theorem l_short (s : ByteArray) (hs : s.size ≤ 9223372036854775807) (w : World) : Calls Tryz.prog 10 #[.string s] w fun e w' => e = .returned (.bool (decide (s.size ≤ 40))) ∧ w' = w := by
  have e1 : decide (s.size ≤ 40) = decide ((s.size : Int) ≤ 40) := by
    by_cases h : s.size ≤ 40
    · rw [decide_eq_true h, decide_eq_true (by omega)]
    · rw [decide_eq_false h, decide_eq_false (by omega)]
  rw [e1]
  go_enter Tryz.func10, Tryz.ntmps10
  go_wp2
  go_ret
  exact ⟨rfl, rfl⟩

set_option maxRecDepth 100000 in
set_option maxHeartbeats 4000000 in
/-- schema of dimensions alone. -/
theorem l_schema (w : World) (A : Option Addr) (n cap : Nat) (nm : Nat → ByteArray) (lo hi : Nat → Int) (hd : DimsAt w A n nm lo hi) (hs : ∀ k, k < n → (nm k).size ≤ 9223372036854775807) (hn : n ≤ 9223372036854775807) :
    Calls Tryz.prog 9 #[.slice A n cap, .slice none 0 0] w fun e w' => ∃ b : Bool, e = .returned (.bool b) ∧ (b = true → n ≤ 10) ∧ Below w.heap.size w w' := by
  have HD := Lib.hid hd
  have HS := Lib.hid hs
  have HL := Lib.hid l_short
  clear hd hs
  go_enter Tryz.func9, Tryz.ntmps9
  by_cases h0 : (n : Int) > 10
  · go_wp2
    go_ret
    exact ⟨false, rfl, (fun h => by cases h), Below.refl _ _⟩
  · go_wp2
    go_loopw [5] (fun i wr => ∃ k : Nat, k ≤ n ∧ i = .int .i64 k ∧ Hid (Below w.heap.size w wr)) (fun i _ => n - (intOf i).toNat)
    case atStart => exact ⟨0, Nat.zero_le _, rfl, Below.refl _ _⟩
    case round =>
      obtain ⟨k, hk, rfl, HB⟩ := hrel
      by_cases hlt : k < n
      · obtain ⟨bd, o, rfl, _, hc⟩ := (HD.out.below HB.out) (by omega)
        obtain ⟨c0, c1, c2⟩ := hc k hlt
        clear hc
        have HSk := Lib.hid (HL.out (nm k) (HS.out k hlt))
        generalize nm k = s at *
        generalize lo k = l0 at *
        generalize hi k = h0 at *
        by_cases h5 : s.size ≤ 40
        · rw [decide_eq_true h5] at HSk
          clear h5
          go_wp2_with fail
          refine (HSk.out _).mono ?_
          rintro e w1 ⟨rfl, rfl⟩
          go_wp2
          go_roundw
          case rel => exact ⟨k + 1, by omega, by go_num, HB.out⟩
          case measure => simp [intOf]; omega
        · rw [decide_eq_false h5] at HSk
          clear h5
          go_wp2_with fail
          refine (HSk.out _).mono ?_
          rintro e w1 ⟨rfl, rfl⟩
          go_wp2
          go_ret
          exact ⟨false, rfl, (fun h => by cases h), HB.out⟩
      · obtain rfl : k = n := by omega
        go_wp2
        go_loopw [6] (fun i wr => i = .int .i64 0 ∧ Hid (Below w.heap.size w wr)) (fun _ _ => 0)
        case atStart => exact ⟨rfl, HB.out⟩
        case round =>
          obtain ⟨rfl, HB2⟩ := hrel
          go_wp2
          go_ret
          exact ⟨true, rfl, fun _ => by omega, HB2.out⟩
end Go.Proofs.YtmhggphkhabjlaaGreatDoor
end
