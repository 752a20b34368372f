/- The reference's volume. -/
import Derived.Test.YtmhggphkhabjlaaGreatDoorZIdxM
import Derived.Test.YtmhggphkhabjlaaGreatDoorZLS
namespace Go.Proofs.YtmhggphkhabjlaaGreatDoor
open Go Go.RowKit Go.Deep

theorem open_not {hi : Nat → Int} {n : Nat} (h : openB hi n = false) : ∀ k, k < n → hi k ≠ 1073741825 := by
  induction n with
  | zero => exact fun k hk => absurd hk (by omega)
  | succ n ih =>
    rw [openB, Bool.or_eq_false_iff, beq_eq_false_iff_ne] at h
    intro k hk
    by_cases e : k = n
    · rw [e]; exact h.2
    · exact ih h.1 k (by omega)
theorem ext_closed {lo hi : Nat → Int} {n : Nat} (hok : DimsOk lo hi n) (h : openB hi n = false) {k : Nat} (hk : k < n) : extZ (lo k) (hi k) = hi k - lo k + 1 ∧ lastZ (hi k) = hi k := by
  have h1 := open_not h k hk
  have h2 := (hok k hk).2.2.2
  have h3 : lastZ (hi k) = hi k := if_pos (by omega)
  exact ⟨by unfold extZ; rw [h3], h3⟩

set_option maxRecDepth 100000 in
set_option maxHeartbeats 4000000 in
theorem r_Volume (w : World) (A : Option Addr) (n cap : Nat) (nm : Nat → ByteArray) (lo hi : Nat → Int) (hd : DimsAt w A n nm lo hi) (hs : ∀ k, k < n → (nm k).size ≤ 9223372036854775807) (hn10 : n ≤ 1000) :
    Calls Tryz.prog 17 #[.slice A n cap] w fun e w' => e = .returned (.tuple #[.int .i64 (volZ nm lo hi n), .int .i64 (volE nm lo hi n)]) ∧ Below w.heap.size w w' := by
  have HD := Lib.hid hd
  have HC := Lib.hid (r_Dims w A n cap nm lo hi hd hs hn10)
  obtain ⟨vz, hvz⟩ : ∃ vz, volZ nm lo hi n = vz := ⟨_, rfl⟩
  obtain ⟨ve, hve⟩ : ∃ ve, volE nm lo hi n = ve := ⟨_, rfl⟩
  rw [hvz, hve]
  have HV : Hid (volZ nm lo hi n = vz ∧ volE nm lo hi n = ve) := ⟨hvz, hve⟩
  clear hd hvz hve hs
  by_cases h0 : dimsZ nm lo hi n = 0
  · have HOK := Lib.hid (dimsZ_ok h0)
    have HE : Hid (ve = bif openB hi n then 3 else bif overB lo hi n then 14 else 0) := by show _ = _; rw [← HV.out.2, volE, if_neg (by rw [h0]; simp)]
    rw [h0] at HC
    have h4 : n ≤ 4 := HOK.out.2.1
    clear h0
    go_enter Tryz.func17, Tryz.ntmps17
    go_wp2_with fail
    refine HC.out.mono ?_
    rintro e w1 ⟨rfl, hb1⟩
    have HB1 := Lib.hid hb1
    clear hb1 HC
    go_wp2
    go_loopw [5] (fun i wr => ∃ k : Nat, k ≤ n ∧ i = .int .i64 k ∧ Hid (openB hi k = false ∧ Below w.heap.size w wr)) (fun i _ => n - (intOf i).toNat)
    case atStart => exact ⟨0, Nat.zero_le _, rfl, rfl, HB1.out⟩
    case round =>
      obtain ⟨k, hk, rfl, HK⟩ := hrel
      by_cases hlt : k < n
      · obtain ⟨bd, o, rfl, _, hc⟩ := (HD.out.below HK.out.2) (by omega)
        obtain ⟨c0, c1, c2⟩ := hc k hlt
        clear hc
        have HS : Hid (openB hi (k + 1) = (hi k == 1073741825)) := by show _ = _; rw [openB, HK.out.1]; rfl
        have HB := Lib.hid HK.out.2
        generalize nm k = s at *
        generalize lo k = l0 at *
        generalize hi k = h0 at *
        by_cases g1 : h0 = 1073741825
        · have HO : Hid (openB hi n = true) := openB_le (k := k + 1) (by rw [HS.out, g1]; rfl) (by omega)
          have HVE : Hid (ve = 3 ∧ vz = 0) := by
            have e1 : ve = 3 := by rw [HE.out, HO.out]; rfl
            refine ⟨e1, ?_⟩
            rw [← HV.out.1, volZ, HV.out.2, if_neg (by rw [e1]; decide)]
          subst g1
          go_wp2
          go_ret2
          exact ⟨by rw [HVE.out.1, HVE.out.2]; rfl, HB.out⟩
        · have g2 : (h0 == 1073741825) = false := by rw [beq_eq_false_iff_ne]; exact g1
          have HR : Hid (openB hi (k + 1) = false) := by show _ = _; rw [HS.out, g2]
          go_wp2
          go_roundw
          case rel => exact ⟨k + 1, by omega, by go_num, HR.out, HB.out⟩
          case measure => simp [intOf]; omega
      · obtain rfl : k = n := by omega
        have HB2 := Lib.hid HK.out.2
        have HO := Lib.hid HK.out.1
        go_wp2
        go_loopw [6, 7, 8] (fun v i _ wr => ∃ k' : Nat, k' ≤ k ∧ i = .int .i64 k' ∧ v = .int .i64 (prodZ lo hi k') ∧ Hid (overB lo hi k' = false ∧ Below w.heap.size w wr)) (fun _ i _ _ => k - (intOf i).toNat)
        case atStart => exact ⟨0, Nat.zero_le _, rfl, rfl, rfl, HB2.out⟩
        case round =>
          obtain ⟨k', hk', rfl, rfl, HK2⟩ := hrel
          by_cases hlt2 : k' < k
          · obtain ⟨bd, o, rfl, _, hc⟩ := (HD.out.below HK2.out.2) (by omega)
            obtain ⟨c0, c1, c2⟩ := hc k' hlt2
            clear hc
            have HBo : Hid (1 ≤ prodZ lo hi k' ∧ prodZ lo hi k' ≤ 4611686018427387904) := prodZ_bound (fun j hj => HOK.out.2.2 j (by omega)) HK2.out.1
            obtain ⟨q1, q2, q3, q4⟩ := HOK.out.2.2 k' hlt2
            have HE1 : Hid (1 ≤ extZ (lo k') (hi k') ∧ extZ (lo k') (hi k') ≤ 2147483649) := extZ_bound q1 q2 q3
            have hEx := (ext_closed HOK.out.2.2 HO.out hlt2).1
            have HP : Hid (prodZ lo hi (k' + 1) = prodZ lo hi k' * extZ (lo k') (hi k')) := rfl
            have HS : Hid (overB lo hi (k' + 1) = decide (Int.tdiv 4611686018427387904 (extZ (lo k') (hi k')) < prodZ lo hi k')) := by show _ = _; rw [overB, HK2.out.1]; rfl
            have HB := Lib.hid HK2.out.2
            generalize nm k' = s at *
            generalize lo k' = l0 at *
            generalize hi k' = h0 at *
            generalize extZ l0 h0 = E at *
            obtain ⟨P, hP⟩ : ∃ P, prodZ lo hi k' = P := ⟨_, rfl⟩
            rw [hP] at HBo HP HS ⊢
            clear hP
            have e0 : (E == 0) = false := by rw [beq_eq_false_iff_ne]; have := HE1.out; omega
            have e1 : ¬ E = 0 := by have := HE1.out; omega
            have hq0 : 0 ≤ Int.tdiv 4611686018427387904 E := by
              rw [Int.tdiv_eq_ediv_of_nonneg (by decide)]
              have := HE1.out
              exact Int.ediv_nonneg (by decide) (by omega)
            have hq1 : Int.tdiv 4611686018427387904 E ≤ 4611686018427387904 := by
              rw [Int.tdiv_eq_ediv_of_nonneg (by decide)]
              exact Int.ediv_le_self _ (by decide)
            obtain ⟨Q, hQe⟩ : ∃ Q, Int.tdiv 4611686018427387904 E = Q := ⟨_, rfl⟩
            rw [hQe] at HS hq0 hq1
            have hQ : wrap64 (Int.tdiv 4611686018427387904 E) = Q := by rw [hQe]; unfold wrap64; omega
            clear hQe
            have hw1 : IntKind.i64.wrap (h0 - l0) = h0 - l0 := by rw [w64 (by omega) (by omega)]
            have hw2 : IntKind.i64.wrap (h0 - l0 + 1) = E := by rw [w64 (by omega) (by omega), hEx]
            clear q1 q2 q3 q4
            have HEX := Lib.hid hEx
            clear hEx
            go_wp2
            go_quiet (fail)
            have HBd : Hid (Below w.heap.size w (wr.drewN nq)) := drewB HB.out _
            generalize wr.drewN nq = wq at *
            by_cases g1 : Q < P
            · have HO2 : Hid (overB lo hi k = true) := overB_le (k := k' + 1) (by rw [HS.out, decide_eq_true g1]) (by omega)
              have HVE : Hid (ve = 14 ∧ vz = 0) := by
                have e1 : ve = 14 := by rw [HE.out, HO.out, HO2.out]; rfl
                refine ⟨e1, ?_⟩
                rw [← HV.out.1, volZ, HV.out.2, if_neg (by rw [e1]; decide)]
              go_wp2
              go_ret2
              exact ⟨by rw [HVE.out.1, HVE.out.2]; rfl, HBd.out⟩
            · have g3 : ¬ P > Q := g1
              have HS2 : Hid (overB lo hi (k' + 1) = false) := by show _ = _; rw [HS.out, decide_eq_false g1]
              have HPE := prodZ_bound (lo := lo) (hi := hi) (k := k' + 1) (fun j hj => HOK.out.2.2 j (by omega)) HS2.out
              rw [HP.out] at HPE
              have HPE2 := Lib.hid HPE
              go_wp2
              go_roundw
              case rel => exact ⟨k' + 1, by omega, by go_num, by rw [HP.out], HS2.out, HBd.out⟩
              case measure => simp [intOf]; omega
          · obtain rfl : k' = k := by omega
            have HVE : Hid (ve = 0 ∧ vz = prodZ lo hi k') := by
              have e1 : ve = 0 := by rw [HE.out, HO.out, HK2.out.1]; rfl
              refine ⟨e1, ?_⟩
              rw [← HV.out.1, volZ, HV.out.2, if_pos e1]
            go_wp2
            go_ret2
            exact ⟨by rw [HVE.out.1, HVE.out.2]; rfl, HK2.out.2⟩
  · have HE : Hid (ve = dimsZ nm lo hi n ∧ vz = 0) := by
      have e1 : ve = dimsZ nm lo hi n := by rw [← HV.out.2, volE, if_pos h0]
      refine ⟨e1, ?_⟩
      rw [← HV.out.1, volZ, HV.out.2, if_neg (by rw [e1]; exact h0)]
    generalize dimsZ nm lo hi n = E at *
    have h1 : (E != 0) = true := by rw [bne_iff_ne]; exact h0
    clear h0
    go_enter Tryz.func17, Tryz.ntmps17
    go_wp2_with fail
    refine HC.out.mono ?_
    rintro e w1 ⟨rfl, hb1⟩
    go_wp2
    go_ret2
    exact ⟨by rw [HE.out.1, HE.out.2]; rfl, hb1⟩

end Go.Proofs.YtmhggphkhabjlaaGreatDoor
