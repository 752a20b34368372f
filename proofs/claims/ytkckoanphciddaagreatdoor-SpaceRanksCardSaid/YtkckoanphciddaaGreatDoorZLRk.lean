/- The walk of SpaceRanks. -/
import Derived.Test.YtkckoanphciddaaGreatDoorZRfD
import Derived.Test.YtkckoanphciddaaGreatDoorZChM
import Derived.Test.YtkckoanphciddaaGreatDoorZLCh
import Derived.Test.YtkckoanphciddaaGreatDoorZRg
import Derived.Test.YtkckoanphciddaaGreatDoorZWka
namespace Go.Proofs.YtkckoanphciddaaGreatDoor
open Go Go.RowKit Go.Deep Go.Shelf

theorem ranks_in {lo hi : Nat → Int} {e : Nat → Nat} {n t : Nat} (he : ∀ k, k < n → 1 ≤ e k ∧ hi k = lo k + e k - 1) : insTo lo hi (fun k => crdZ lo e n t k) n = true := insTo_iff.2 fun k hk => crd_inB he k hk
theorem volO_small {lo hi : Nat → Int} : ∀ {n : Nat}, (∀ k, k < n → lo k ≤ hi k ∧ hi k - lo k ≤ 8) → 1 ≤ volO lo hi n ∧ volO lo hi n ≤ 9 ^ n
  | 0, _ => ⟨Nat.le_refl _, Nat.le_refl _⟩
  | n + 1, h => by
    have ih := volO_small (n := n) fun k hk => h k (by omega)
    have h1 := h n (Nat.lt_succ_self n)
    have h2 : 1 ≤ (hi n - lo n + 1).toNat ∧ (hi n - lo n + 1).toNat ≤ 9 := by omega
    show 1 ≤ volO lo hi n * _ ∧ volO lo hi n * _ ≤ _
    rw [Nat.pow_succ]
    exact ⟨Nat.mul_pos ih.1 h2.1, Nat.mul_le_mul ih.2 h2.2⟩
theorem ord_bad {ord tile : Int} (h : ordB ord tile = false) : ¬ (1 : Int) ≤ ord ∨ ¬ ord ≤ 3 ∨ (ord = 1 ∧ ¬ tile = 0) ∨ (ord = 2 ∧ ¬ tile = 0) ∨ (ord = 3 ∧ ¬ (1 : Int) ≤ tile) ∨ (ord = 3 ∧ (1 : Int) ≤ tile ∧ ¬ tile ≤ 64) := by
  unfold ordB at h
  by_cases h1 : ord = 1 ∨ ord = 2
  · rw [if_pos h1] at h
    have h2 : ¬ tile = 0 := by simpa using h
    omega
  · rw [if_neg h1] at h
    by_cases h3 : ord = 3
    · rw [if_pos h3, Bool.and_eq_false_iff, decide_eq_false_iff_not, decide_eq_false_iff_not] at h
      omega
    · omega
theorem pow9 {n : Nat} (h : n ≤ 4) : 9 ^ n ≤ 6561 := by
  rcases (by omega : n = 0 ∨ n = 1 ∨ n = 2 ∨ n = 3 ∨ n = 4) with rfl | rfl | rfl | rfl | rfl <;> decide
set_option maxRecDepth 100000 in
set_option maxHeartbeats 8000000 in
theorem l_ranks (w : World) (S O A : Option Addr) (s sc o oc n c : Nat) (ord tile form codec : Int) (xs sd : Nat → Int) (hA : I8At w A n xs) (hx : ∀ k, k < n → -128 ≤ xs k ∧ xs k ≤ 127) (hs : ∀ k, 0 ≤ sd k ∧ sd k ≤ 255) (hw : WorksAt w) :
    Calls Tryz.prog 7 #[LayV S s sc O o oc ord tile form codec, CubeV A n c sd] w fun e w' => e = .returned (.bool true) ∧ Below w.heap.size w w' := by
  have HW := Lib.hid hw
  have HX : Hid (∀ k, k < n → -128 ≤ xs k ∧ xs k ≤ 127) := hx
  have HS : Hid (∀ k, 0 ≤ sd k ∧ sd k ≤ 255) := hs
  have HBx : Hid (∀ W, Below w.heap.size w W → Calls Tryz.prog 38 #[CubeV A n c sd] W fun e w' => ∃ P Q m cp cq, e = .returned (BoxW P Q m cp m cq) ∧ m = min n 4 ∧ IntsAt w' P m xs ∧ IntsAt w' Q m (fun k => xs k + sd k % 9) ∧ Below W.heap.size W w') := fun W hW => l_box W A n c xs sd (hA.below hW) hx hs
  have HLy : Hid (∀ W, Calls Tryz.prog 19 #[LayV S s sc O o oc ord tile form codec] W fun e w' => e = .returned (.bool (decide (s ≤ 10) && decide (o ≤ 10))) ∧ Below W.heap.size W w') := fun W => l_layout S O s sc o oc ord tile form codec W
  have KB := Lib.hid (lay_box w S O s sc o oc ord tile form codec)
  have HB1 : Hid (Below w.heap.size w (w.alloc (.cells #[.slice S s sc, .slice O o oc, .int .i64 ord, .int .i64 tile, .int .i64 form, .int .i64 codec] 54))) := (Below.refl _ _).alloc (Nat.le_refl _) _
  have hz1 : (w.alloc (.cells #[.slice S s sc, .slice O o oc, .int .i64 ord, .int .i64 tile, .int .i64 form, .int .i64 codec] 54)).heap.size = w.heap.size + 1 := by simp
  clear hA hx hs hw
  go_enter Tryz.func7, Tryz.ntmps7
  go_wp2_with fail
  generalize w.alloc (.cells #[.slice S s sc, .slice O o oc, .int .i64 ord, .int .i64 tile, .int .i64 form, .int .i64 codec] 54) = Wa at *
  have HB1c : Hid (Below (w.heap.size + 1) Wa (Wa.alloc (.cells #[.slice A n c, .int .u8 (sd 0), .int .u8 (sd 1), .int .u8 (sd 2), .int .u8 (sd 3)] 79))) := (Below.refl _ _).alloc (by omega) _
  have hzc : (Wa.alloc (.cells #[.slice A n c, .int .u8 (sd 0), .int .u8 (sd 1), .int .u8 (sd 2), .int .u8 (sd 3)] 79)).heap.size = w.heap.size + 2 := by simp; omega
  generalize Wa.alloc (.cells #[.slice A n c, .int .u8 (sd 0), .int .u8 (sd 1), .int .u8 (sd 2), .int .u8 (sd 3)] 79) = Wc at *
  have HVc : Hid (Below w.heap.size w Wc) := HB1.out.trans (HB1c.out.mono (by omega))
  have KL : Hid (∀ W, Below Wc.heap.size Wc W → W.cell? ⟨w.heap.size, 0, none⟩ = some (.slice S s sc) ∧ W.cell? ⟨w.heap.size, 1, none⟩ = some (.slice O o oc) ∧ W.cell? ⟨w.heap.size, 2, none⟩ = some (.int .i64 ord) ∧ W.cell? ⟨w.heap.size, 3, none⟩ = some (.int .i64 tile) ∧ W.cell? ⟨w.heap.size, 4, none⟩ = some (.int .i64 form) ∧ W.cell? ⟨w.heap.size, 5, none⟩ = some (.int .i64 codec)) := fun W hW => KB.out W (by rw [hz1]; exact HB1c.out.trans (hW.mono (by omega)))
  clear KB HB1c
  refine (HBx.out Wc HVc.out).mono ?_
  rintro e w1 ⟨P, Q, m, cp, cq, rfl, hm, hP, hQ, hb1⟩
  have HM : Hid (m = min n 4) := hm
  have hm4 : m ≤ 4 := by omega
  clear hm HBx
  have B1n := bel_nw w1 (.cells #[.slice P m cp, .slice Q m cq] 66)
  have HB2 : Hid (Below Wc.heap.size Wc (w1.alloc (.cells #[.slice P m cp, .slice Q m cq] 66))) := st hb1 B1n
  have HPQ : Hid (IntsAt (w1.alloc (.cells #[.slice P m cp, .slice Q m cq] 66)) P m xs ∧ IntsAt (w1.alloc (.cells #[.slice P m cp, .slice Q m cq] 66)) Q m (fun k => xs k + sd k % 9)) := ⟨hP.below B1n, hQ.below B1n⟩
  have K2 := Lib.hid (box_two w1 (.slice P m cp) (.slice Q m cq) 66)
  have hz2 : (w1.alloc (.cells #[.slice P m cp, .slice Q m cq] 66)).heap.size = w1.heap.size + 1 := by simp
  have hz12 : w.heap.size + 2 ≤ w1.heap.size := by rw [← hzc]; exact hb1.size
  clear hP hQ hb1 B1n
  obtain ⟨hi, hhi⟩ : ∃ hi : Nat → Int, (fun k => xs k + sd k % 9) = hi := ⟨_, rfl⟩
  have HHi : Hid (∀ k, hi k = xs k + sd k % 9) := fun k => by rw [← hhi]
  rw [hhi] at HPQ
  clear hhi
  go_wp2_with fail
  generalize w1.alloc (.cells #[.slice P m cp, .slice Q m cq] 66) = w2 at *
  have HV2 : Hid (Below w.heap.size w w2) := st HVc.out HB2.out
  have HE : Hid (∀ k, k < m → 1 ≤ (sd k % 9).toNat + 1 ∧ hi k = xs k + (((sd k % 9).toNat + 1 : Nat) : Int) - 1) := fun k _ => by have := HHi.out k; have := HS.out k; omega
  have HBd : Hid (∀ k, k < m → -1073741824 ≤ xs k ∧ xs k ≤ hi k ∧ hi k ≤ 1073741824 ∧ hi k - xs k < 4096) := fun k hk => by have := HHi.out k; have := HS.out k; have := HX.out k (by have := HM.out; omega); omega
  have HVo : Hid (∀ k, k ≤ m → 1 ≤ volO xs hi k ∧ volO xs hi k ≤ 6561) := fun k hk => by
    have h1 := volO_small (lo := xs) (hi := hi) (n := k) fun j hj => by have := HHi.out j; have := HS.out j; omega
    have h2 := pow9 (n := k) (by omega)
    omega
  clear HX HS HM
  go_loopw [6, 7] (fun v i wr => ∃ k : Nat, k ≤ m ∧ i = .int .i64 k ∧ v = .int .i64 (volO xs hi k : Nat) ∧ Hid (Below w2.heap.size w2 wr)) (fun _ i _ => m - (intOf i).toNat)
  case atStart => exact ⟨0, Nat.zero_le _, rfl, rfl, (Below.refl _ _)⟩
  case round =>
    obtain ⟨k, hk, rfl, rfl, HBr⟩ := hrel
    obtain ⟨m0, m1⟩ := K2.out wr (by rw [hz2]; exact HBr.out.mono (by rw [← hz2]; exact Nat.le_refl _))
    by_cases hlt : k < m
    · obtain ⟨bp, op, rfl, hbp, hcp⟩ := (HPQ.out.1.below HBr.out) (by omega)
      obtain ⟨bq, oq, rfl, hbq, hcq⟩ := (HPQ.out.2.below HBr.out) (by omega)
      have x0 := hcp k hlt
      have y0 := hcq k hlt
      clear hcp hcq
      have hbd := HBd.out k hlt
      have HSt : Hid (volO xs hi (k + 1) = volO xs hi k * (hi k - xs k + 1).toNat) := rfl
      have hv0 := HVo.out k hk
      have HV1 := Lib.hid (HVo.out (k + 1) (by omega))
      obtain ⟨E, hE⟩ : ∃ E : Nat, hi k - xs k + 1 = E := ⟨(hi k - xs k + 1).toNat, by omega⟩
      have HEk : Hid (volO xs hi (k + 1) = volO xs hi k * E) := by show _ = _; rw [HSt.out, hE]; rfl
      have hw2 : wrap64 (((volO xs hi k : Nat) : Int) * (hi k - xs k + 1)) = ((volO xs hi (k + 1) : Nat) : Int) := by
        rw [hE, ← Int.natCast_mul, ← HEk.out]
        have := HV1.out
        unfold wrap64
        omega
      clear hE hv0
      go_wp2_with fail
      go_quiet (fail)
      rw [hw2]
      go_wp2
      go_roundw
      case rel => exact ⟨k + 1, by omega, by go_num, rfl, drewB HBr.out _⟩
      case measure => simp [intOf]; omega
    · obtain rfl : k = m := by omega
      have HVr : Hid (Below w.heap.size w wr) := st HV2.out HBr.out
      have HWk : Hid (∀ W, Below w.heap.size w W → Calls Tryz.prog 11 #[] W fun e w' => e = .returned (.bool true) ∧ Below w.heap.size w w') := fun W hW => (HW.out W hW).mono fun e w' h => ⟨h.1, st hW h.2⟩
      have hN9 := (HVo.out k (Nat.le_refl _)).2
      by_cases hk0 : k = 0
      · subst hk0
        have h400 : ¬ ((volO xs hi 0 : Nat) : Int) > 400 := by show ¬ (1 : Int) > 400; decide
        go_wp2_with fail
        refine (HWk.out _ HVr.out).mono ?_
        rintro e u ⟨rfl, hb⟩
        go_wp2
        go_ret
        exact ⟨rfl, hb⟩
      · have hkp : 0 < k := by omega
        obtain ⟨N, hN⟩ : ∃ N, volO xs hi k = N := ⟨_, rfl⟩
        have HN := Lib.hid hN
        rw [hN] at hN9 ⊢
        clear hN
        by_cases h400 : (N : Int) > 400
        · go_wp2_with fail
          refine (HWk.out _ HVr.out).mono ?_
          rintro e u ⟨rfl, hb⟩
          go_wp2
          go_ret
          exact ⟨rfl, hb⟩
        · obtain ⟨l0, l1, l2, l3, l4, l5⟩ := KL.out wr (st HB2.out HBr.out)
          go_wp2_with fail
          refine (HLy.out _).mono ?_
          rintro e w4 ⟨rfl, hb4⟩
          have HB4 : Hid (Below w2.heap.size w2 w4) := st HBr.out hb4
          have HV4 : Hid (Below w.heap.size w w4) := st HVr.out hb4
          clear hb4 l0 l1 l2 l3 l4 l5 m0 m1
          obtain ⟨m0, m1⟩ := K2.out w4 (by rw [hz2]; exact HB4.out.mono (by rw [← hz2]; exact Nat.le_refl _))
          obtain ⟨l0, l1, l2, l3, l4, l5⟩ := KL.out w4 (st HB2.out HB4.out)
          cases hly : (decide (s ≤ 10) && decide (o ≤ 10))
          · go_wp2_with fail
            refine (HWk.out _ HV4.out).mono ?_
            rintro e u ⟨rfl, hb⟩
            go_wp2
            go_ret
            exact ⟨rfl, hb⟩
          · clear hly
            go_wp2_with fail
            cases ho : ordB ord tile
            · refine (s_Seq_bad w4 S O P Q s sc o oc k cp k cq ord tile form codec ho).mono ?_
              rintro e w5 ⟨rfl, hb5⟩
              have HB5 : Hid (Below w2.heap.size w2 w5) := st HB4.out hb5
              have HV5 : Hid (Below w.heap.size w w5) := st HV4.out hb5
              clear hb5 l0 l1 l2 l3 l4 l5 m0 m1
              obtain ⟨l0, l1, l2, l3, l4, l5⟩ := KL.out w5 (st HB2.out HB5.out)
              have HOr := Lib.hid ho
              clear ho
              have hcase : ¬ (1 : Int) ≤ ord ∨ ¬ ord ≤ 3 ∨ (ord = 1 ∧ ¬ tile = 0) ∨ (ord = 2 ∧ ¬ tile = 0) ∨ (ord = 3 ∧ ¬ (1 : Int) ≤ tile) ∨ (ord = 3 ∧ (1 : Int) ≤ tile ∧ ¬ tile ≤ 64) := ord_bad HOr.out
              rcases hcase with c1 | c1 | ⟨rfl, c1⟩ | ⟨rfl, c1⟩ | ⟨rfl, c1⟩ | ⟨rfl, c1, c2⟩
              · go_wp2_with fail
                refine (HWk.out _ HV5.out).mono ?_
                rintro e u ⟨rfl, hb⟩
                go_wp2
                go_ret
                exact ⟨rfl, hb⟩
              · have c2 : (1 : Int) ≤ ord := by omega
                go_wp2_with fail
                refine (HWk.out _ HV5.out).mono ?_
                rintro e u ⟨rfl, hb⟩
                go_wp2
                go_ret
                exact ⟨rfl, hb⟩
              · go_wp2_with fail
                refine (HWk.out _ HV5.out).mono ?_
                rintro e u ⟨rfl, hb⟩
                go_wp2
                go_ret
                exact ⟨by simp [c1], hb⟩
              · go_wp2_with fail
                refine (HWk.out _ HV5.out).mono ?_
                rintro e u ⟨rfl, hb⟩
                go_wp2
                go_ret
                exact ⟨by simp [c1], hb⟩
              · go_wp2_with fail
                refine (HWk.out _ HV5.out).mono ?_
                rintro e u ⟨rfl, hb⟩
                go_wp2
                go_ret
                exact ⟨rfl, hb⟩
              · go_wp2_with fail
                refine (HWk.out _ HV5.out).mono ?_
                rintro e u ⟨rfl, hb⟩
                go_wp2
                go_ret
                exact ⟨by simp [c2], hb⟩
            · have hvN : volC (fun j => (sd j % 9).toNat + 1) k 0 = N := (volO_all HE.out).symm.trans HN.out
              have hN4 : volC (fun j => (sd j % 9).toNat + 1) k 0 ≤ 4096 := by rw [hvN]; omega
              obtain ⟨ky, hinj, hseq, hrk⟩ := seq_rank w2 S O P Q s sc o oc k cp cq ord tile form codec xs hi (fun j => (sd j % 9).toNat + 1) HPQ.out.1 HPQ.out.2 hkp hm4 ho HBd.out HE.out hN4
              have HIn : Hid (∀ t j, j < k → xs j ≤ crdZ xs (fun j => (sd j % 9).toNat + 1) k t j ∧ crdZ xs (fun j => (sd j % 9).toNat + 1) k t j ≤ hi j) := fun t j hj => crd_inB HE.out j hj
              rw [hvN] at hinj hseq hrk
              have HRa : Hid (∀ i, i < N → cntTo (fun t => decide (ky t < ky ((pairR ky N)[i]!).2)) N = i) := fun i hi => rank_at hinj hi
              have HRk := Lib.hid hrk
              clear hrk hinj hvN hN4 ho HN HVo HBd HE
              refine (hseq w4 HB4.out).mono ?_
              rintro e w5 ⟨b, rfl, hL, hb5⟩
              have HLs := Lib.hid hL
              have HB5 : Hid (Below w2.heap.size w2 w5) := st HB4.out hb5
              have HV5 : Hid (Below w.heap.size w w5) := st HV4.out hb5
              clear hb5 hL hseq l0 l1 l2 l3 l4 l5 m0 m1
              have hNl : N ≤ 400 := by omega
              go_wp2_with fail
              go_loopw [11, 12, 13] (fun i _ _ wr => ∃ t : Nat, t ≤ N ∧ i = .int .i64 t ∧ Hid (Below w5.heap.size w5 wr)) (fun i _ _ _ => N - (intOf i).toNat)
              case atStart => exact ⟨0, Nat.zero_le _, rfl, (Below.refl _ _)⟩
              case round =>
                obtain ⟨t, ht, rfl, HBt⟩ := hrel
                have HVt : Hid (Below w.heap.size w wr) := st HV5.out HBt.out
                have HWt : Hid (Below w2.heap.size w2 wr) := st HB5.out HBt.out
                by_cases hlt : t < N
                · obtain ⟨b', off', hbe, hbl, hcs⟩ := (HLs.out.below HBt.out) (by omega)
                  obtain ⟨rfl, rfl⟩ : b = b' ∧ 0 = off' := by simpa using hbe
                  obtain ⟨Pt, ct, x0, hPt, -⟩ := hcs t hlt
                  rw [Nat.zero_add] at x0
                  have HKt : Hid (∀ W, Below wr.heap.size wr W → (W.cell? ⟨w.heap.size, 0, none⟩ = some (.slice S s sc) ∧ W.cell? ⟨w.heap.size, 1, none⟩ = some (.slice O o oc) ∧ W.cell? ⟨w.heap.size, 2, none⟩ = some (.int .i64 ord) ∧ W.cell? ⟨w.heap.size, 3, none⟩ = some (.int .i64 tile) ∧ W.cell? ⟨w.heap.size, 4, none⟩ = some (.int .i64 form) ∧ W.cell? ⟨w.heap.size, 5, none⟩ = some (.int .i64 codec)) ∧ (W.cell? ⟨w1.heap.size, 0, none⟩ = some (.slice P k cp) ∧ W.cell? ⟨w1.heap.size, 1, none⟩ = some (.slice Q k cq)) ∧ W.cell? ⟨b, t, none⟩ = some (.slice Pt k ct)) := fun W hW => ⟨KL.out W (st HB2.out (st HWt.out hW)), K2.out W (by rw [hz2]; exact (st HWt.out hW).mono (by rw [← hz2]; exact Nat.le_refl _)), (hW.cell (p := ⟨b, t, none⟩) hbl).trans x0⟩
                  have HRt : Hid (∀ W, Below wr.heap.size wr W → Calls Tryz.prog 36 #[LayV S s sc O o oc ord tile form codec, BoxW P Q k cp k cq, .slice Pt k ct] W fun e' w' => e' = .returned (.tuple #[.int .i64 (t : Nat), .int .i64 0]) ∧ Below W.heap.size W w') := fun W hW => (HRk.out W Pt ct _ (st HWt.out hW) (hPt.below hW)).mono fun e' w' h => by rw [HRa.out t hlt] at h; exact h
                  have HIs : Hid (∀ W, Below wr.heap.size wr W → Calls Tryz.prog 39 #[BoxW P Q k cp k cq, .slice Pt k ct] W fun e' w' => e' = .returned (.bool true) ∧ Below W.heap.size W w') := fun W hW => (l_inside W P Q Pt k cp cq ct xs hi _ (HPQ.out.1.below (st HWt.out hW)) (HPQ.out.2.below (st HWt.out hW)) (hPt.below hW) (by omega)).mono fun e' w' h => by rw [insTo_iff.2 fun j hj => HIn.out _ j hj] at h; exact h
                  clear hPt hcs hbe hbl x0
                  obtain ⟨⟨l0, l1, l2, l3, l4, l5⟩, ⟨m0, m1⟩, x0⟩ := HKt.out wr (Below.refl _ _)
                  have B0d : Below wr.heap.size wr wr.drew := Below.drew (Below.refl _ _)
                  go_wp2_with fail
                  go_region_held3 (fun W => (W.cell? ⟨w.heap.size, 0, none⟩ = some (.slice S s sc) ∧ W.cell? ⟨w.heap.size, 1, none⟩ = some (.slice O o oc) ∧ W.cell? ⟨w.heap.size, 2, none⟩ = some (.int .i64 ord) ∧ W.cell? ⟨w.heap.size, 3, none⟩ = some (.int .i64 tile) ∧ W.cell? ⟨w.heap.size, 4, none⟩ = some (.int .i64 form) ∧ W.cell? ⟨w.heap.size, 5, none⟩ = some (.int .i64 codec)) ∧ (W.cell? ⟨w1.heap.size, 0, none⟩ = some (.slice P k cp) ∧ W.cell? ⟨w1.heap.size, 1, none⟩ = some (.slice Q k cq)) ∧ W.cell? ⟨b, t, none⟩ = some (.slice Pt k ct))
                    (first | exact HKt.out _ B1 | exact HKt.out _ B0d | exact HKt.out _ (Below.refl _ _))
                    (first
                      | (go_at_call 36; refine (HRt.out _ B0d).mono ?_; rintro e w6 ⟨rfl, hb6⟩; have B1 : Below wr.heap.size wr w6 := st B0d hb6))
                  all_goals
                    clear l0 l1 l2 l3 l4 l5 m0 m1 x0
                    have HK6 : Hid (∀ W, Below w6.heap.size w6 W → (W.cell? ⟨w.heap.size, 0, none⟩ = some (.slice S s sc) ∧ W.cell? ⟨w.heap.size, 1, none⟩ = some (.slice O o oc) ∧ W.cell? ⟨w.heap.size, 2, none⟩ = some (.int .i64 ord) ∧ W.cell? ⟨w.heap.size, 3, none⟩ = some (.int .i64 tile) ∧ W.cell? ⟨w.heap.size, 4, none⟩ = some (.int .i64 form) ∧ W.cell? ⟨w.heap.size, 5, none⟩ = some (.int .i64 codec)) ∧ (W.cell? ⟨w1.heap.size, 0, none⟩ = some (.slice P k cp) ∧ W.cell? ⟨w1.heap.size, 1, none⟩ = some (.slice Q k cq)) ∧ W.cell? ⟨b, t, none⟩ = some (.slice Pt k ct)) := fun W hW => HKt.out W (st B1 hW)
                    have HI6 : Hid (∀ W, Below w6.heap.size w6 W → Calls Tryz.prog 39 #[BoxW P Q k cp k cq, .slice Pt k ct] W fun e' w' => e' = .returned (.bool true) ∧ Below W.heap.size W w') := fun W hW => HIs.out W (st B1 hW)
                    have B6d : Below w6.heap.size w6 w6.drew := Below.drew (Below.refl _ _)
                    obtain ⟨⟨l0, l1, l2, l3, l4, l5⟩, ⟨m0, m1⟩, x0⟩ := HK6.out w6 (Below.refl _ _)
                    go_wp2_with fail
                    go_region_held3 (fun W => (W.cell? ⟨w.heap.size, 0, none⟩ = some (.slice S s sc) ∧ W.cell? ⟨w.heap.size, 1, none⟩ = some (.slice O o oc) ∧ W.cell? ⟨w.heap.size, 2, none⟩ = some (.int .i64 ord) ∧ W.cell? ⟨w.heap.size, 3, none⟩ = some (.int .i64 tile) ∧ W.cell? ⟨w.heap.size, 4, none⟩ = some (.int .i64 form) ∧ W.cell? ⟨w.heap.size, 5, none⟩ = some (.int .i64 codec)) ∧ (W.cell? ⟨w1.heap.size, 0, none⟩ = some (.slice P k cp) ∧ W.cell? ⟨w1.heap.size, 1, none⟩ = some (.slice Q k cq)) ∧ W.cell? ⟨b, t, none⟩ = some (.slice Pt k ct))
                      (first | exact HK6.out _ B7 | exact HK6.out _ B6d | exact HK6.out _ (Below.refl _ _))
                      (first
                        | (go_at_call 39; refine (HI6.out _ B6d).mono ?_; rintro e w7 ⟨rfl, hb7⟩; have B7 : Below w6.heap.size w6 w7 := st B6d hb7))
                    all_goals
                      go_wp2
                      go_roundw
                      case rel => exact ⟨t + 1, by omega, by go_num, st HBt.out (st B1 B7)⟩
                      case measure => simp [intOf]; omega
                · obtain rfl : t = N := by omega
                  go_wp2_with fail
                  refine (HWk.out _ HVt.out).mono ?_
                  rintro e u ⟨rfl, hb⟩
                  go_wp2
                  go_ret
                  exact ⟨rfl, hb⟩
end Go.Proofs.YtkckoanphciddaaGreatDoor
