/- Make: a cell in error. -/
import Derived.Test.YtogmbehomilalaaGreatDoorZMk
import Derived.Test.YtogmbehomilalaaGreatDoorZSoC

/- Make: a cell in error. -/
section
namespace Go.Proofs.YtogmbehomilalaaGreatDoor
open Go Go.RowKit Go.Deep

set_option maxRecDepth 100000 in
set_option maxHeartbeats 8000000 in
/-- The first cell in error has number K. -/
theorem s_Make_cell (w : World) (A B C : Option Addr) (n cap m bcap N ccap K : Nat) (nm : Nat → ByteArray) (lo hi : Nat → Int) (an : Nat → ByteArray) (ty : Nat → Int) (c : CeD) (hd : DimsAt w A n nm lo hi) (ha : AttrsAt w B m an ty) (hc : CeAt w C N c) (hn : n ≤ 1000) (hm : m ≤ 1000) (hK : K < N) (hN : N ≤ 1000000)
    (he : manyE nm lo hi n an ty m N = 0) (hce : ∀ k, k < K → cellE lo hi n ty m (c.x k) (c.ln k) (c.vk k) (c.vn k) (c.vd k) (c.vs k) (c.vl k) = 0) (hE : cellE lo hi n ty m (c.x K) (c.ln K) (c.vk K) (c.vn K) (c.vd K) (c.vs K) (c.vl K) ≠ 0) :
    Calls Tryz.prog 10 #[.slice A n cap, .slice B m bcap, .slice C N ccap] w fun e w' => e = .returned (.tuple #[ArrV none 0 0 none 0 0 none 0 0, .int .i64 (cellE lo hi n ty m (c.x K) (c.ln K) (c.vk K) (c.vn K) (c.vd K) (c.vs K) (c.vl K))]) ∧ Below w.heap.size w w' := by
  have HB : Hid (Below w.heap.size w (w.alloc (.cells #[.slice none 0 0, .slice none 0 0, .slice none 0 0] 29))) := (Below.refl _ _).alloc (Nat.le_refl _) _
  have HM := Lib.hid (s_manyError (w.alloc (.cells #[.slice none 0 0, .slice none 0 0, .slice none 0 0] 29)) A B C n cap m bcap N ccap nm lo hi an ty (hd.below HB.out) (ha.below HB.out))
  rw [he] at HM
  have hn0 := heap_alloc_new w (.cells #[.slice none 0 0, .slice none 0 0, .slice none 0 0] 29)
  have hl0 : w.heap.size < (w.alloc (.cells #[.slice none 0 0, .slice none 0 0, .slice none 0 0] 29)).heap.size := by simp
  have HD := Lib.hid hd
  have HA := Lib.hid ha
  have HC := Lib.hid hc
  have HCE : Hid (∃ E : Nat → Int, (∀ k, E k = cellE lo hi n ty m (c.x k) (c.ln k) (c.vk k) (c.vn k) (c.vd k) (c.vs k) (c.vl k)) ∧ (∀ k, k < K → E k = 0) ∧ E K ≠ 0) := ⟨_, fun _ => rfl, hce, hE⟩
  clear hd ha hc hce he hE
  obtain ⟨E, hE0, hE1, hE2⟩ := HCE.out
  rw [← hE0 K]
  have HE0 := Lib.hid hE0
  have HE1 := Lib.hid hE1
  have HE2 := Lib.hid hE2
  clear hE0 hE1 hE2 HCE
  go_enter Tryz.func10, Tryz.ntmps10
  go_wp2_with fail
  refine HM.out.mono ?_
  rintro e w1 ⟨rfl, hb1⟩
  have HB1 : Hid (Below w.heap.size w w1) := st HB.out hb1
  have hres := (hb1.block w.heap.size hl0).trans hn0
  have hl1 : w.heap.size < w1.heap.size := Nat.lt_of_lt_of_le hl0 hb1.size
  have HRS := Lib.hid hres
  clear hb1 hn0 hl0 HM HB hres
  obtain ⟨bc, oc, rfl, hbc, hcs⟩ := HC.out (by omega)
  have HBC := Lib.hid hbc
  have HCS := Lib.hid hcs
  clear hcs hbc HC
  go_wp2_with fail
  go_loopw [24] (fun i wr => ∃ k : Nat, k ≤ K ∧ i = .int .i64 k ∧ Hid (Below w1.heap.size w1 wr)) (fun i _ => N - (intOf i).toNat)
  case atStart => exact ⟨0, Nat.zero_le _, rfl, Below.refl _ _⟩
  case round =>
    obtain ⟨k, hk, rfl, HBr⟩ := hrel
    have hlt : k < N := by omega
    obtain ⟨P, pc, X, d, h1, h2, h3, h4, h5⟩ := HCS.out k hlt
    have HWr : Hid (Below w.heap.size w wr) := st HB1.out HBr.out
    have x0 := (HWr.out.cell (p := ⟨bc, oc + k * 2, none⟩) HBC.out).trans h1
    have x1 := (HWr.out.cell (p := ⟨bc, oc + k * 2 + 1, none⟩) HBC.out).trans h2
    have HCe : Hid (∀ W, Below wr.heap.size wr W → Calls Tryz.prog 36 #[.slice A n cap, .slice B m bcap, CelV P (c.ln k) pc X (c.vl k) d] W fun e w' => e = .returned (.int .i64 (E k)) ∧ Below W.heap.size W w') := fun W hW => by
      have hh := st HWr.out hW
      rw [HE0.out k]
      exact s_cellError W A B P X n cap m bcap (c.ln k) pc (c.vl k) d nm lo hi an ty (c.x k) (c.vk k) (c.vn k) (c.vd k) (c.vs k) (HD.out.below hh) (HA.out.below hh) (h3.below hh) (h4.below hh) (by omega) (by omega) (by omega)
    clear h1 h2 h3 h4 h5
    generalize c.ln k = ln at *
    generalize c.vl k = vl at *
    by_cases hkK : k < K
    · rw [HE1.out k hkK] at HCe
      go_wp2_with (go_at_call 36; refine (HCe.out _ (bel_nw wr _)).mono ?_; rintro e w5 ⟨rfl, hb5⟩; have HB5 := Lib.hid (st (bel_nw wr (.cells #[.slice P ln pc, .slice X vl d] 38)) hb5))
      go_roundw
      case rel => exact ⟨k + 1, by omega, by go_num, st HBr.out HB5.out⟩
      case measure => simp [intOf]; omega
    · obtain rfl : k = K := by omega
      have h1 : (E k != 0) = true := by rw [bne_iff_ne]; exact HE2.out
      go_wp2_with (go_at_call 36; refine (HCe.out _ (bel_nw wr _)).mono ?_; rintro e w5 ⟨rfl, hb5⟩; have HB5 := Lib.hid (st (bel_nw wr (.cells #[.slice P ln pc, .slice X vl d] 38)) hb5); have HB6 := Lib.hid (st HWr.out HB5.out); have hres := ((HB5.out.block w.heap.size (Nat.lt_of_lt_of_le hl1 HBr.out.size)).trans ((HBr.out.block w.heap.size hl1).trans HRS.out)); obtain ⟨⟨r0, r1, r2⟩, f0, f1, f2⟩ := three_at hres)
      refine bodyPost_ret (v := .tuple #[ArrV none 0 0 none 0 0 none 0 0, .int .i64 (E k)]) (res_cell_tmp Tryz.results10 _ _ w.heap.size 29 _ (0, 0) _ rfl (three_set hres _ _ _) Tryz.underlying29 rfl (by rw [info_arr]; rfl)) rfl ?_
      exact ⟨rfl, ((HB6.out.setCell (p := ⟨w.heap.size, 0, none⟩) (Nat.le_refl _) _).setCell (p := ⟨w.heap.size, 1, none⟩) (Nat.le_refl _) _).setCell (p := ⟨w.heap.size, 2, none⟩) (Nat.le_refl _) _⟩
end Go.Proofs.YtogmbehomilalaaGreatDoor
end

/- Make: two cells of the same place. -/
section
namespace Go.Proofs.YtogmbehomilalaaGreatDoor
open Go Go.RowKit Go.Deep

set_option maxRecDepth 100000 in
set_option maxHeartbeats 8000000 in
/-- Two cells of the same place: the first pair of them, in their order, ends at J. -/
theorem s_Make_dup (w : World) (A B C : Option Addr) (n cap m bcap N ccap J : Nat) (nm : Nat → ByteArray) (lo hi : Nat → Int) (an : Nat → ByteArray) (ty : Nat → Int) (c : CeD) (hd : DimsAt w A n nm lo hi) (ha : AttrsAt w B m an ty) (hc : CeAt w C N c) (hn1 : 1 ≤ n) (hn : n ≤ 1000) (hm : m ≤ 1000) (hN1 : 1 ≤ N) (hN : N ≤ 1000000) (ho : CeOk N c)
    (he : manyE nm lo hi n an ty m N = 0) (hce : ∀ k, k < N → cellE lo hi n ty m (c.x k) (c.ln k) (c.vk k) (c.vn k) (c.vd k) (c.vs k) (c.vl k) = 0)
    (hJ1 : 1 ≤ J) (hJ : J < N) (hdi : ∀ j, 1 ≤ j → j < J → cmpS n n (c.x ((numR n (fun t => c.x (clN N t)) N)[j - 1]!)) (c.x ((numR n (fun t => c.x (clN N t)) N)[j]!)) ≠ 0)
    (hdJ : cmpS n n (c.x ((numR n (fun t => c.x (clN N t)) N)[J - 1]!)) (c.x ((numR n (fun t => c.x (clN N t)) N)[J]!)) = 0) :
    Calls Tryz.prog 10 #[.slice A n cap, .slice B m bcap, .slice C N ccap] w fun e w' => e = .returned (.tuple #[ArrV none 0 0 none 0 0 none 0 0, .int .i64 5]) ∧ Below w.heap.size w w' := by
  have hln : ∀ k, k < N → c.ln k = n ∧ c.vl k = m := fun k hk => by
    have h := hce k hk
    unfold cellE at h
    by_cases e : c.ln k ≠ n ∨ c.vl k ≠ m
    · rw [if_pos e] at h; cases h
    · omega
  have HB : Hid (Below w.heap.size w (w.alloc (.cells #[.slice none 0 0, .slice none 0 0, .slice none 0 0] 29))) := (Below.refl _ _).alloc (Nat.le_refl _) _
  have HM := Lib.hid (s_manyError (w.alloc (.cells #[.slice none 0 0, .slice none 0 0, .slice none 0 0] 29)) A B C n cap m bcap N ccap nm lo hi an ty (hd.below HB.out) (ha.below HB.out))
  rw [he] at HM
  have hn0 := heap_alloc_new w (.cells #[.slice none 0 0, .slice none 0 0, .slice none 0 0] 29)
  have hl0 : w.heap.size < (w.alloc (.cells #[.slice none 0 0, .slice none 0 0, .slice none 0 0] 29)).heap.size := by simp
  have HD := Lib.hid hd
  have HA := Lib.hid ha
  have HC := Lib.hid hc
  have HO := Lib.hid ho
  have HCE := Lib.hid hce
  have HDI := Lib.hid hdi
  have HDE := Lib.hid hdJ
  have HLN := Lib.hid hln
  clear hd ha hc ho hce hdi hdJ hln he
  go_enter Tryz.func10, Tryz.ntmps10
  go_wp2_with fail
  refine HM.out.mono ?_
  rintro e w1 ⟨rfl, hb1⟩
  have HB1 : Hid (Below w.heap.size w w1) := st HB.out hb1
  have hres := (hb1.block w.heap.size hl0).trans hn0
  have hl1 : w.heap.size < w1.heap.size := Nat.lt_of_lt_of_le hl0 hb1.size
  have HRS := Lib.hid hres
  clear hb1 hn0 hl0 HM HB hres
  obtain ⟨bc, oc, rfl, hbc, hcs⟩ := HC.out (by omega)
  have hex : ∀ t, ∃ pq : Value × Value, (∃ P pc X d, pq.1 = .slice P n pc ∧ pq.2 = .slice X m d ∧ IntsAt w P n (c.x (clN N t)) ∧ ValsAt w X m (c.vk (clN N t)) (c.vn (clN N t)) (c.vd (clN N t)) (c.vs (clN N t))) ∧ w.cell? ⟨bc, oc + clN N t * 2, none⟩ = some pq.1 ∧ w.cell? ⟨bc, oc + clN N t * 2 + 1, none⟩ = some pq.2 := fun t => by
    obtain ⟨P, pc, X, d, h1, h2, h3, h4, _⟩ := hcs _ (clN_lt hN1 t)
    obtain ⟨e1, e2⟩ := HLN.out _ (clN_lt hN1 t)
    rw [e1] at h1 h3
    rw [e2] at h2 h4
    exact ⟨(_, _), ⟨P, pc, X, d, rfl, rfl, h3, h4⟩, h1, h2⟩
  obtain ⟨pq, hpq⟩ := Classical.axiomOfChoice hex
  have HPQ := Lib.hid hpq
  have HBC := Lib.hid hbc
  clear hex hpq hcs hbc HC
  go_wp2_with fail
  go_loopw [24] (fun i wr => ∃ k : Nat, k ≤ N ∧ i = .int .i64 k ∧ Hid (Below w1.heap.size w1 wr)) (fun i _ => N - (intOf i).toNat)
  case atStart => exact ⟨0, Nat.zero_le _, rfl, Below.refl _ _⟩
  case round =>
    obtain ⟨k, hk, rfl, HBr⟩ := hrel
    by_cases hlt : k < N
    · obtain ⟨⟨P, pc, X, d, e1, e2, h3, h4⟩, h1, h2⟩ := HPQ.out k
      rw [clN_id hlt] at h1 h2 h3 h4
      rw [e1] at h1
      rw [e2] at h2
      have HWr : Hid (Below w.heap.size w wr) := st HB1.out HBr.out
      have x0 := (HWr.out.cell (p := ⟨bc, oc + k * 2, none⟩) HBC.out).trans h1
      have x1 := (HWr.out.cell (p := ⟨bc, oc + k * 2 + 1, none⟩) HBC.out).trans h2
      have HCe : Hid (∀ W, Below wr.heap.size wr W → Calls Tryz.prog 36 #[.slice A n cap, .slice B m bcap, CelV P n pc X m d] W fun e w' => e = .returned (.int .i64 0) ∧ Below W.heap.size W w') := fun W hW => by
        have hh := st HWr.out hW
        have h9 := s_cellError W A B P X n cap m bcap n pc m d nm lo hi an ty (c.x k) (c.vk k) (c.vn k) (c.vd k) (c.vs k) (HD.out.below hh) (HA.out.below hh) (h3.below hh) (h4.below hh) (by omega) (by omega) (by omega)
        have h8 := HCE.out k hlt
        obtain ⟨l1, l2⟩ := HLN.out k hlt
        rw [l1, l2] at h8
        rwa [h8] at h9
      clear h1 h2 h3 h4 e1 e2
      go_wp2_with (go_at_call 36; refine (HCe.out _ (bel_nw wr _)).mono ?_; rintro e w5 ⟨rfl, hb5⟩; have HB5 := Lib.hid (st (bel_nw wr (.cells #[.slice P n pc, .slice X m d] 38)) hb5))
      go_roundw
      case rel => exact ⟨k + 1, by omega, by go_num, st HBr.out HB5.out⟩
      case measure => simp [intOf]; omega
    · obtain rfl : k = N := by omega
      obtain ⟨wo, rfl⟩ : ∃ wo, wo = wr := ⟨_, rfl⟩
      have HWr : Hid (Below w.heap.size w wo) := st HB1.out HBr.out
      have hV := c_cells wo (some ⟨bc, oc, none⟩) k ccap
      have HV := Lib.hid hV
      have HBv : Hid (Below wo.heap.size wo (wo.alloc (.cells #[.slice (some ⟨bc, oc, none⟩) k ccap] 24))) := bel_nw wo _
      have hnv := heap_alloc_new wo (.cells #[.slice (some ⟨bc, oc, none⟩) k ccap] 24)
      have HSo := Lib.hid (c_sortedC (wo.alloc (.cells #[.slice (some ⟨bc, oc, none⟩) k ccap] 24)) wo.heap.size (some ⟨bc, oc, none⟩) k ccap n (fun t => c.x (clN k t)) (fun t => (pq t).1) (fun t => (pq t).2) hN1 hN hn1 (by omega)
        (fun W hW => by
          refine ⟨?_, fun j hj => ⟨bc, oc, rfl, ?_, ?_⟩⟩
          · have h9 := (hW.block wo.heap.size (by simp)).trans hnv
            simp [World.cell?, h9]
          · obtain ⟨_, h1, _⟩ := HPQ.out j
            rw [clN_id hj] at h1
            exact ((st (st HWr.out HBv.out) hW).cell (p := ⟨bc, oc + j * 2, none⟩) HBC.out).trans h1
          · obtain ⟨_, _, h2⟩ := HPQ.out j
            rw [clN_id hj] at h2
            exact ((st (st HWr.out HBv.out) hW).cell (p := ⟨bc, oc + j * 2 + 1, none⟩) HBC.out).trans h2)
        (fun t => by
          obtain ⟨⟨P, pc, X, d, e1, e2, h3, _⟩, _, _⟩ := HPQ.out t
          exact ⟨P, pc, X, m, d, e1, e2, h3.below (st HWr.out HBv.out)⟩))
      clear hV hnv
      go_wp2_with (first
        | (go_at_call 38; refine HV.out.mono ?_; rintro e w5 ⟨rfl, rfl⟩)
        | (go_at_call 37; refine HSo.out.mono ?_; rintro e w6 ⟨b, rfl, hb6, hcb, hbl6⟩; have HB6 := Lib.hid (st HBv.out hbl6); have HCB := Lib.hid hcb))
      have HW6 : Hid (Below w.heap.size w w6) := st HWr.out HB6.out
      obtain ⟨r, hr⟩ : ∃ r : Nat → Nat, r = fun j => (numR n (fun t => c.x (clN k t)) k)[j]! := ⟨_, rfl⟩
      have HCL : Hid (∀ W, Below w6.heap.size w6 W → ∀ j, j < k → ∃ P pc X d, W.cell? ⟨b, j * 2, none⟩ = some (.slice P n pc) ∧ W.cell? ⟨b, j * 2 + 1, none⟩ = some (.slice X m d) ∧ IntsAt W P n (c.x (r j)) ∧ ValsAt W X m (c.vk (r j)) (c.vn (r j)) (c.vd (r j)) (c.vs (r j))) := fun W hW j hj => by
        have hrj : r j < k := by rw [hr]; exact numR_lt n _ k j hj
        obtain ⟨⟨P, pc, X, d, e1, e2, h3, h4⟩, _, _⟩ := HPQ.out (r j)
        rw [clN_id hrj] at h3 h4
        obtain ⟨x0, x1⟩ := HCB.out j hj
        have er : (numR n (fun t => c.x (clN k t)) k)[j]! = r j := by rw [hr]
        rw [er] at x0 x1
        rw [e1] at x0
        rw [e2] at x1
        have hb6' : b < w6.heap.size := cell_lt' x0
        exact ⟨P, pc, X, d, (hW.cell (p := ⟨b, j * 2, none⟩) hb6').trans x0, (hW.cell (p := ⟨b, j * 2 + 1, none⟩) hb6').trans x1, h3.below (st HW6.out hW), h4.below (st HW6.out hW)⟩
      have HDJ : Hid (∀ j, 1 ≤ j → j < J → cmpS n n (c.x (r (j - 1))) (c.x (r j)) ≠ 0) := fun j h1 h2 => by
        rw [hr]
        exact HDI.out j h1 h2
      have HDK : Hid (cmpS n n (c.x (r (J - 1))) (c.x (r J)) = 0) := by
        show _ = _
        rw [hr]
        exact HDE.out
      have HRL : Hid (∀ j, j < k → r j < k) := fun j hj => by rw [hr]; exact numR_lt n _ k j hj
      have HRE := Lib.hid hr
      have hbw6 : b < w6.heap.size := by
        obtain ⟨x0, _⟩ := HCB.out 0 (by omega)
        exact cell_lt' x0
      clear hr HCB HSo HV HPQ HDI HDE
      have HSC := Lib.hid s_Compare
      go_loopw [13] (fun i wr2 => ∃ j : Nat, 1 ≤ j ∧ j ≤ J ∧ i = .int .i64 j ∧ Hid (Below w6.heap.size w6 wr2)) (fun i _ => k - (intOf i).toNat)
      case atStart => exact ⟨1, Nat.le_refl _, hJ1, rfl, Below.refl _ _⟩
      case round =>
        obtain ⟨j, hj1, hj, rfl, HBj⟩ := hrel
        by_cases hlj : j < J
        · have hlt : j < k := by omega
          obtain ⟨i, hij⟩ : ∃ i, j = i + 1 := ⟨j - 1, by omega⟩
          have hne := HDJ.out j hj1 hlj
          rw [show j - 1 = i by omega] at hne
          have HBw : Hid (Below w.heap.size w wr) := st HW6.out HBj.out
          have HK2 : Hid (∃ P pc P' pc', (∀ W, Below wr.heap.size wr W → W.cell? ⟨b, i * 2, none⟩ = some (.slice P n pc) ∧ W.cell? ⟨b, j * 2, none⟩ = some (.slice P' n pc')) ∧ ∀ W, Below wr.heap.size wr W → Calls Tryz.prog 40 #[.slice P n pc, .slice P' n pc'] W fun e w' => e = .returned (.int .i64 (cmpS n n (c.x (r i)) (c.x (r j)))) ∧ w' = W) := by
            obtain ⟨P, pc, X, d, y0, _, h3, _⟩ := HCL.out wr HBj.out i (by omega)
            obtain ⟨P', pc', X', d', z0, _, h3', _⟩ := HCL.out wr HBj.out j hlt
            have hbw : b < wr.heap.size := cell_lt' y0
            exact ⟨P, pc, P', pc', fun W hW => ⟨(hW.cell (p := ⟨b, i * 2, none⟩) hbw).trans y0, (hW.cell (p := ⟨b, j * 2, none⟩) hbw).trans z0⟩, fun W hW => HSC.out W P P' n pc n pc' _ _ (h3.below hW) (h3'.below hW) (by omega) (by omega)⟩
          obtain ⟨P, pc, P', pc', hcl, hco⟩ := HK2.out
          have HCX := Lib.hid hcl
          have HCO := Lib.hid hco
          obtain ⟨y0, y1⟩ := hcl wr (Below.refl _ _)
          clear hcl hco HK2
          generalize cmpS n n (c.x (r i)) (c.x (r j)) = z at *
          have hz0 : (z == 0) = false := by rw [beq_eq_false_iff_ne]; exact hne
          have hw : IntKind.i64.wrap ((j : Int) - 1) = ((i : Nat) : Int) := by rw [w64 (by omega) (by omega)]; omega
          have q0 : (0 : Int) ≤ (i : Int) := by omega
          have q1 : (i : Int) < (k : Int) := by omega
          have q2 : (0 : Int) ≤ (j : Int) := by omega
          have q3 : (j : Int) < (k : Int) := by omega
          have B0d : Below wr.heap.size wr wr.drew := Below.drew (Below.refl _ _)
          clear hne hij
          go_wp2_with fail
          go_region_held3 (fun W => W.cell? ⟨b, i * 2, none⟩ = some (.slice P n pc) ∧ W.cell? ⟨b, j * 2, none⟩ = some (.slice P' n pc'))
            (first | exact HCX.out _ B0d | exact HCX.out _ (Below.refl _ _))
            (first | (go_at_call 40; refine (HCO.out _ B0d).mono ?_; rintro e w7 ⟨rfl, rfl⟩))
          have HBd : Hid (Below w6.heap.size w6 wr.drew) := HBj.out.drew
          go_wp2_with fail
          go_roundw
          case rel => exact ⟨j + 1, by omega, by omega, by go_num, HBd.out⟩
          case measure => simp [intOf]; omega
        · obtain rfl : j = J := by omega
          have hlt : j < k := hJ
          obtain ⟨i, hij⟩ : ∃ i, j = i + 1 := ⟨j - 1, by omega⟩
          have hne := HDK.out
          rw [show j - 1 = i by omega] at hne
          have HBw : Hid (Below w.heap.size w wr) := st HW6.out HBj.out
          have HK2 : Hid (∃ P pc P' pc', (∀ W, Below wr.heap.size wr W → W.cell? ⟨b, i * 2, none⟩ = some (.slice P n pc) ∧ W.cell? ⟨b, j * 2, none⟩ = some (.slice P' n pc')) ∧ ∀ W, Below wr.heap.size wr W → Calls Tryz.prog 40 #[.slice P n pc, .slice P' n pc'] W fun e w' => e = .returned (.int .i64 (cmpS n n (c.x (r i)) (c.x (r j)))) ∧ w' = W) := by
            obtain ⟨P, pc, X, d, y0, _, h3, _⟩ := HCL.out wr HBj.out i (by omega)
            obtain ⟨P', pc', X', d', z0, _, h3', _⟩ := HCL.out wr HBj.out j hlt
            have hbw : b < wr.heap.size := cell_lt' y0
            exact ⟨P, pc, P', pc', fun W hW => ⟨(hW.cell (p := ⟨b, i * 2, none⟩) hbw).trans y0, (hW.cell (p := ⟨b, j * 2, none⟩) hbw).trans z0⟩, fun W hW => HSC.out W P P' n pc n pc' _ _ (h3.below hW) (h3'.below hW) (by omega) (by omega)⟩
          obtain ⟨P, pc, P', pc', hcl, hco⟩ := HK2.out
          have HCX := Lib.hid hcl
          have HCO := Lib.hid hco
          obtain ⟨y0, y1⟩ := hcl wr (Below.refl _ _)
          clear hcl hco HK2
          generalize cmpS n n (c.x (r i)) (c.x (r j)) = z at *
          have hz0 : (z == 0) = true := by rw [beq_iff_eq]; exact hne
          have hw : IntKind.i64.wrap ((j : Int) - 1) = ((i : Nat) : Int) := by rw [w64 (by omega) (by omega)]; omega
          have q0 : (0 : Int) ≤ (i : Int) := by omega
          have q1 : (i : Int) < (k : Int) := by omega
          have q2 : (0 : Int) ≤ (j : Int) := by omega
          have q3 : (j : Int) < (k : Int) := by omega
          have B0d : Below wr.heap.size wr wr.drew := Below.drew (Below.refl _ _)
          clear hne hij
          go_wp2_with fail
          go_region_held3 (fun W => W.cell? ⟨b, i * 2, none⟩ = some (.slice P n pc) ∧ W.cell? ⟨b, j * 2, none⟩ = some (.slice P' n pc'))
            (first | exact HCX.out _ B0d | exact HCX.out _ (Below.refl _ _))
            (first | (go_at_call 40; refine (HCO.out _ B0d).mono ?_; rintro e w7 ⟨rfl, rfl⟩))
          have HBd : Hid (Below w6.heap.size w6 wr.drew) := HBj.out.drew
          have HWd : Hid (Below w.heap.size w wr.drew) := st HW6.out HBd.out
          have hres := ((HBd.out.block w.heap.size (Nat.lt_of_lt_of_le hl1 (by have := HB6.out.size; have := HBr.out.size; omega))).trans ((HB6.out.block w.heap.size (Nat.lt_of_lt_of_le hl1 HBr.out.size)).trans ((HBr.out.block w.heap.size hl1).trans HRS.out)))
          obtain ⟨⟨r0, r1, r2⟩, f0, f1, f2⟩ := three_at hres
          clear B0d
          generalize wr.drew = wd at *
          go_wp2_with fail
          refine bodyPost_ret (v := .tuple #[ArrV none 0 0 none 0 0 none 0 0, .int .i64 5]) (res_cell_tmp Tryz.results10 _ _ w.heap.size 29 _ (0, 0) _ rfl (three_set hres _ _ _) Tryz.underlying29 rfl (by rw [info_arr]; rfl)) rfl ?_
          exact ⟨rfl, ((HWd.out.setCell (p := ⟨w.heap.size, 0, none⟩) (Nat.le_refl _) _).setCell (p := ⟨w.heap.size, 1, none⟩) (Nat.le_refl _) _).setCell (p := ⟨w.heap.size, 2, none⟩) (Nat.le_refl _) _⟩
end Go.Proofs.YtogmbehomilalaaGreatDoor
end

/- No cells, sorted. -/
section
namespace Go.Proofs.YtogmbehomilalaaGreatDoor
open Go Go.RowKit Go.Deep Go.Shelf Go.Sort
attribute [local go_sem] Oper.semAt_some

theorem c_ins0 (p : Option Addr) (cap : Nat) (fv : Value) (w : World) :
    Calls Tryz.prog 142 #[.slice p 0 cap, .int .i64 0, .int .i64 0, fv] w fun e w' => e = .returned (.tuple #[]) ∧ w' = w := by
  go_enter Tryz.func142, Tryz.ntmps142
  go_wp2
  refine wp_loop_rounds 1 ?_
  rw [rounds_succ]
  go_wp2
  go_end0
  exact ⟨rfl, rfl⟩
theorem c_pdq0 (p : Option Addr) (cap : Nat) (lim : Int) (fv : Value) (w : World) :
    Calls Tryz.prog 117 #[.slice p 0 cap, .int .i64 0, .int .i64 0, .int .i64 lim, fv] w fun e w' => e = .returned (.tuple #[]) ∧ w' = w := by
  go_enter Tryz.func117, Tryz.ntmps117
  go_wp2
  refine wp_loop_rounds 1 ?_
  rw [rounds_succ]
  go_wp2_with (go_at_call 142; refine (c_ins0 p cap fv _).mono ?_; rintro e w' ⟨rfl, rfl⟩)
  (try simp only [Exit.inBlock, Exit.then]); refine bodyPost_ret (results_none rfl _ _ _) rfl ?_
  exact ⟨rfl, rfl⟩
theorem c_sort0 (p : Option Addr) (N cap : Nat) (fv : Value) (w : World) (h0 : N = 0) :
    Calls Tryz.prog 78 #[.slice p N cap, fv] w fun e w' => e = .returned (.tuple #[]) ∧ w' = w := by
  subst h0
  have hl : ∀ W, Calls Tryz.prog 92 #[.int .u64 0] W fun e w' => e = .returned (.int .i64 (Lib.bitLen 0 : Nat)) ∧ w' = W := fun W => Tryz.bits_Len 0 W (by omega) (by omega)
  go_enter Tryz.func78, Tryz.ntmps78
  go_wp2_with (first
    | (go_at_call 92; refine (hl _).mono ?_; rintro e w' ⟨rfl, rfl⟩)
    | (go_at_call 117; refine (c_pdq0 p cap _ fv _).mono ?_; rintro e w' ⟨rfl, rfl⟩))
  go_end0
  exact ⟨rfl, rfl⟩
set_option maxRecDepth 100000 in
set_option maxHeartbeats 4000000 in
/-- No cells. -/
theorem c_sortedN (w : World) (Bs : Nat) (A : Option Addr) (N cap n : Nat) (f : Nat → Nat → Int) (p q : Nat → Value) (h0 : N = 0) (hR : ∀ W, Below w.heap.size w W → ReadsCel Bs A N cap p q W)
    (hps : ∀ t, ∃ P c X m d, p t = .slice P n c ∧ q t = .slice X m d ∧ True) :
    Calls Tryz.prog 37 #[celF Bs, atF, comF] w fun e w' => ∃ b, e = .returned (.slice (some ⟨b, 0, none⟩) N N) ∧ w.heap.size ≤ b ∧ (∀ j, j < N → w'.cell? ⟨b, j * 2, none⟩ = some (p ((numR n f N)[j]!)) ∧ w'.cell? ⟨b, j * 2 + 1, none⟩ = some (q ((numR n f N)[j]!))) ∧ Below w.heap.size w w' := by
  refine (callsIn_wide (n := 3)).1 ?_
  refine callsIn_of_wp_marks Tryz.func37 rfl trivial ?_ rfl
  simp only [Tryz.ntmps37, List.size_toArray, List.length_cons, List.length_nil, Nat.reduceAdd, Nat.reduceSub, Array.replicate_succ, Array.replicate_zero, List.push_toArray, List.append_toArray, List.nil_append, List.cons_append]
  have hN : N ≤ 1000000 := by omega
  have HZ : Hid (N = 0) := h0
  clear h0
  have HR := Lib.hid hR
  have HP := Lib.hid hps
  clear hR hps
  obtain ⟨i0, hi, hz0, hz1, hz2⟩ := info_parts info_keyC
  have hmk := run_make_cel N hN
  gi_wp2
  have b0 := Boxed.new w 84 atF
  have b1 := Boxed.new (w.alloc (.cells #[atF] 84)) 76 comF
  have b2 := Boxed.new ((w.alloc (.cells #[atF] 84)).alloc (.cells #[comF] 76)) 129 (.slice none 0 0)
  have c0 := (b0.alloc (.cells #[comF] 76)).alloc (.cells #[.slice none 0 0] 129)
  have c1 := b1.alloc (.cells #[.slice none 0 0] 129)
  have hbl : Below w.heap.size w (((w.alloc (.cells #[atF] 84)).alloc (.cells #[comF] 76)).alloc (.cells #[.slice none 0 0] 129)) := (((Below.refl _ _).alloc (Nat.le_refl _) _).alloc (by simp) _).alloc (by simp; omega) _
  have hsz : (((w.alloc (.cells #[atF] 84)).alloc (.cells #[comF] 76)).alloc (.cells #[.slice none 0 0] 129)).heap.size = w.heap.size + 1 + 1 + 1 := by simp
  rw [World.size_alloc] at c1
  rw [World.size_alloc, World.size_alloc] at b2
  clear b0 b1
  generalize ((w.alloc (.cells #[atF] 84)).alloc (.cells #[comF] 76)).alloc (.cells #[.slice none 0 0] 129) = w1 at *
  rename_i KO hKO
  refine wpIn_range_as (gf := 80) (lb := #[.pointer (some ⟨Bs, 0, none⟩)]) rfl (by omega) rfl trivial (enters_of Tryz.func80 (by kernel_rfl) rfl)
    (cells_iter Fence.wide _ trivial rfl Bs N cap A p q (fun k => by obtain ⟨P, c, X, m, d, e1, e2, _⟩ := HP.out k; exact ⟨P, n, c, X, m, d, e1, e2⟩) hN (by omega))
    (fun k args W h => by rw [h]; rfl)
    (fun k W => SoAt w p q k W) (fun _ _ => False)
    (so_steps w p q _ (by omega)) (fun c W W' row h => h.elim)
    (fun s W W' row hs hg hr => hs) (fun k W h => HR.out W h.2.2.2) ⟨⟨_, b2, ⟨rfl, .inl ⟨rfl, rfl⟩⟩⟩, c0, c1, hbl⟩
    (fun args => .cells (args.getD 0 undef).cells 38 (0, 0))
    (fun args B => { tmps := #[celF Bs, atF, comF, undef, .pointer (some ⟨w.heap.size, 0, none⟩), .pointer (some ⟨w.heap.size + 1, 0, none⟩), .slice none 0 0, .pointer (some ⟨w.heap.size + 1 + 1, 0, none⟩), .pointer (some ⟨B, 0, none⟩), undef, undef, undef, celF Bs, args.getD 0 undef, undef, undef, undef, undef, undef, undef, undef, undef, undef, undef, undef, undef, undef, undef, undef, undef, undef, undef, undef, undef, undef, undef, undef, undef, undef, undef, undef, undef], defers := [] }) ?assign ?body ?done ?stop
  case assign =>
    rintro l k args W K rfl hK
    obtain ⟨P, c, X, m, d, e1, e2, _⟩ := HP.out k
    rw [e1, e2] at hK ⊢
    gi_wp2
    exact hK
  case body =>
    rintro l k args B W hk ⟨⟨sv, h1, h2⟩, h4, h5, h6⟩ rfl hBw hob
    obtain ⟨vp, vc, up, un, uc, e1, e2, -⟩ := HP.out k
    have hob' : W.heap[B]? = some (.cells #[.slice vp n vc, .slice up un uc] 38 (0, 0)) := by rw [← e1, ← e2]; exact hob
    obtain ⟨sp, sn, sc, rfl⟩ := own_shape h2
    have H2 := Lib.hid h2
    have hbw := h6.size
    have hBl : B < W.heap.size := (Array.getElem?_eq_some_iff.1 hob').1
    have HOB := Lib.hid hob'
    have HE := Lib.hid (And.intro e1 e2)
    rw [e1, e2]
    clear hob hob' e1 e2
    gi_wp2
    refine RC.r_pairs (B4 := w.heap.size) (Bp := w.heap.size + 1 + 1) (Bx := B) (sp := sp) (sn := sn) (sc := sc) (g := 39) (vp := vp) (vn := n) (vc := vc) (up := up) (un := un) (uc := uc) rfl rfl rfl (dag_of (by kernel_rfl)) (by kernel_rfl) (by kernel_rfl) (by kernel_rfl) rfl rfl rfl rfl rfl rfl rfl rfl rfl rfl rfl rfl (by kernel_rfl) (by kernel_rfl) rfl rfl rfl rfl rfl rfl (by kernel_rfl) (by kernel_rfl) rfl rfl rfl (by kernel_rfl) rfl rfl rfl (by kernel_rfl) (by kernel_rfl) rfl rfl rfl (by kernel_rfl) rfl rfl rfl
      (fun W' hW => by
        have hb := (hW.block B hBl).trans HOB.out
        exact ⟨by rw [cell_of_row _ _ _ _ _ _ hb]; rfl, by rw [cell_of_row _ _ _ _ _ _ hb]; rfl⟩)
      (fun W' hW => (h1.kept (grown_below hW) (by simp)).cell) (fun W' hW => (h4.kept (grown_below hW) (by simp)).cell) (enters_of Tryz.func39 (by kernel_rfl) rfl)
      (fun W' _ => c_at W' vp up n vc un uc) ?_
    intro W' b ty hW hb
    have hown := H2.out.kept (grown_below hW) (own_ne H2.out fun r e => by cases e)
    have hcs : ∀ j u, [Value.slice vp n vc, .slice vp n vc, .slice up un uc][j]? = some u → W'.cell? ((⟨b, 0, none⟩ : Addr).add j) = some u := fun j u hj => by
      rw [Addr.add_lit, Nat.zero_add]
      match j, hj with
      | 0, hj => cases hj; rw [cell_of_row _ _ _ _ _ _ hb]; rfl
      | 1, hj => cases hj; rw [cell_of_row _ _ _ _ _ _ hb]; rfl
      | 2, hj => cases hj; rw [cell_of_row _ _ _ _ _ _ hb]; rfl
    have hone : ∀ u ∈ [Value.slice vp n vc, .slice vp n vc, .slice up un uc], u.oneCell' = true := fun u hu => by
      simp only [List.mem_cons, List.not_mem_nil, or_false] at hu
      rcases hu with rfl | rfl | rfl <;> rfl
    obtain ⟨v', w', hrun, hown', hgrow, -⟩ := run_append_own (P := Tryz.prog) (w := W') (w.heap.size + 1 + 1 + 1) 129 ty 131 i0 _ 3 72 Tryz.underlying129 hi hz0 hz1 hz2 rfl (by decide) _ _ _ hown ⟨b, 0, none⟩ 1 1 _ rfl hcs hone (by unfold maxLen; omega) (by omega) (by have := hW.size; omega)
    obtain ⟨p', n', c', rfl⟩ := own_shape hown'
    have B1 := h1.kept (grown_below hW) (by simp)
    have B4 := h4.kept (grown_below hW) (by simp)
    have B5 := h5.kept (grown_below hW) (by simp)
    have nb : ∀ {B : Nat} {t : TypeId} {u : Value}, Boxed W' B t u → t ≠ 131 → some B ≠ (Value.slice sp sn sc).ownBlock := fun h ht => h.not_row ht hown
    have C1 := B1.kept hgrow (nb B1 (by decide))
    have C4 := B4.kept hgrow (nb B4 (by decide))
    have C5 := B5.kept hgrow (nb B5 (by decide))
    have gs := grownBy_setCell' w' (w.heap.size + 1 + 1) (.slice p' n' c')
    refine ⟨p', n', c', w', hrun, ⟨_, C1.cell⟩, C1.frozen, fun a => ?_⟩
    have hkeep : KeepsOthers W (w'.setCell ⟨w.heap.size + 1 + 1, 0, none⟩ (.slice p' n' c')) := ((keeps_below hW).trans (KeepsOthers.of_grownBy hgrow fun j o ej hj => by
      obtain ⟨_, cs, h⟩ := own_lt hown j ej
      rw [h] at hj; cases hj; rfl)).trans (KeepsOthers.setCell _ _ _)
    have hbel : Below w.heap.size w (w'.setCell ⟨w.heap.size + 1 + 1, 0, none⟩ (.slice p' n' c')) :=
      (((h6.trans (hW.mono (by omega))).grown hgrow (by have := hW.size; omega) (fun r e => by have := (own_lt hown r e).1; omega)).setCell (by show w.heap.size ≤ w.heap.size + 1 + 1; omega) _)
    refine ⟨hkeep, ⟨⟨.slice p' n' c', C1.set _, ?_⟩, C4.kept gs (by simp; omega), C5.kept gs (by simp), hbel⟩⟩
    rw [pairK_succ, HE.out.1, HE.out.2]
    exact hown'.kept gs (own_ne hown' fun r e => by cases e; exact .inl (by omega))
  case done =>
    rintro D W hD ⟨⟨sv, h1, h2⟩, h4, h5, h6⟩ hK
    obtain ⟨sp, cap9, rfl⟩ : ∃ sp cap9, sv = .slice sp N cap9 := by
      rcases h2.2 with ⟨e, _⟩ | ⟨g, c9, cur, e, _⟩
      · exact ⟨none, 0, by rw [e, HZ.out]⟩
      · exact ⟨_, _, e⟩
    have hDl : D < W.heap.size := (Array.getElem?_eq_some_iff.1 hK).1
    have HS := Lib.hid (c_sort0 sp N cap9 (.func (.func 79) #[] #[.pointer (some ⟨w.heap.size + 1, 0, none⟩)]) W HZ.out)
    have HX : Hid (Boxed W (w.heap.size + 1 + 1) 129 (.slice sp N cap9) ∧ Below w.heap.size w W ∧ W.heap[D]? = some (.deferred (some [])) ∧ D < W.heap.size ∧ w.heap.size ≤ W.heap.size) := ⟨h1, h6, hK, hDl, h6.size⟩
    have c1 := h1.cell
    clear h1 h2 h4 h5 h6
    refine hKO _ _ (wpIn_wide.2 ?_)
    clear hKO
    go_wp2_with (first
      | (go_at_call 78; refine HS.out.mono ?_; rintro e w2 ⟨rfl, hw2⟩; subst hw2; obtain ⟨d1, d3, d4, d6, d7⟩ := HX.out; have d1c := d1.cell; have d1a := (d1.alloc (.cells (madeCells #[.slice none 0 0, .slice none 0 0] (N * 2)) 38)).cell))
    have HB0 : Hid (Below w2.heap.size w2 (w2.alloc (.cells (madeCells #[.slice none 0 0, .slice none 0 0] (N * 2)) 38))) := (Below.refl _ _).alloc (Nat.le_refl _) _
    have hrow0 := made_cel (heap_alloc_new w2 (.cells (madeCells #[.slice none 0 0, .slice none 0 0] (N * 2)) 38))
    clear HS HX
    obtain ⟨r, HRR⟩ : ∃ r : Nat → Nat, Hid (∀ j, (numR n f N)[j]! = r j) := ⟨fun j => (numR n f N)[j]!, fun _ => rfl⟩
    go_loopw [10, 11, 30] (fun _ _ i wr => ∃ (k : Nat) (g : Nat → Value), k ≤ N ∧ i = .int .i64 k ∧ wr.rowIs w2.heap.size 38 (N * 2) (fun j => g j) ∧ Hid (∀ j, j < k → g (j * 2) = p (r j) ∧ g (j * 2 + 1) = q (r j)) ∧ Hid (Below w2.heap.size w2 wr)) (fun _ _ i _ => N - (intOf i).toNat)
    case atStart => exact ⟨0, fun _ => .slice none 0 0, Nat.zero_le _, rfl, hrow0, fun j hj => absurd hj (by omega), HB0.out⟩
    case round =>
      obtain ⟨k, g, hk, rfl, hrow, HV, HBw⟩ := hrel
      have hsz : w2.heap.size < wr.heap.size := hrow.lt
      by_cases hlt : k < N
      · exact absurd hlt (by have := HZ.out; omega)
      · obtain rfl : k = N := by omega
        go_wp2
        have hKr : wr.heap[D]? = some (.deferred (some [])) := (HBw.out.block D d6).trans d4
        have hbl := d3.trans (HBw.out.mono d7)
        refine ⟨by simp, .inl ⟨_, _, rfl, run_takeDeferred hKr, ?_⟩⟩
        refine ⟨.slice (some ⟨w2.heap.size, 0, none⟩) k k, by simp [results, Tryz.results37, go_sem], w2.heap.size, rfl, by omega, fun j hj => ?_, hbl.trans (belowK_b (w := w) (Nat.le_refl _) wr D _ _ (by omega) hKr rfl rfl)⟩
        have hrow2 := hrow.of_block (World.putObj_heap_other (by omega) : (wr.putObj D (.deferred none)).heap[w2.heap.size]? = _)
        rw [hrow2.cell (by omega), hrow2.cell (by omega), (HV.out j hj).1, (HV.out j hj).2, HRR.out j]
        exact ⟨rfl, rfl⟩
  case stop => exact fun D c W hD h => h.elim
end Go.Proofs.YtogmbehomilalaaGreatDoor
end

/- Make: no cells. -/
section
namespace Go.Proofs.YtogmbehomilalaaGreatDoor
open Go Go.RowKit Go.Deep

set_option maxRecDepth 100000 in
set_option maxHeartbeats 8000000 in
/-- No cells. -/
theorem s_Make_nil (w : World) (A B C : Option Addr) (n cap m bcap N ccap : Nat) (nm : Nat → ByteArray) (lo hi : Nat → Int) (an : Nat → ByteArray) (ty : Nat → Int) (c : CeD) (hd : DimsAt w A n nm lo hi) (ha : AttrsAt w B m an ty) (hn : n ≤ 1000) (hm : m ≤ 1000) (h0 : N = 0)
    (he : manyE nm lo hi n an ty m N = 0) :
    Calls Tryz.prog 10 #[.slice A n cap, .slice B m bcap, .slice C N ccap] w fun e w' => ∃ p : ArP, e = .returned (.tuple #[p.val n m N, .int .i64 0]) ∧ ArUp w' w.heap.size p ⟨n, nm, lo, hi, m, an, ty, N, c⟩ ∧ Below w.heap.size w w' := by
  have HB : Hid (Below w.heap.size w (w.alloc (.cells #[.slice none 0 0, .slice none 0 0, .slice none 0 0] 29))) := (Below.refl _ _).alloc (Nat.le_refl _) _
  have HM := Lib.hid (s_manyError (w.alloc (.cells #[.slice none 0 0, .slice none 0 0, .slice none 0 0] 29)) A B C n cap m bcap N ccap nm lo hi an ty (hd.below HB.out) (ha.below HB.out))
  rw [he] at HM
  have hn0 := heap_alloc_new w (.cells #[.slice none 0 0, .slice none 0 0, .slice none 0 0] 29)
  have hl0 : w.heap.size < (w.alloc (.cells #[.slice none 0 0, .slice none 0 0, .slice none 0 0] 29)).heap.size := by simp
  have HD := Lib.hid hd
  have HA := Lib.hid ha
  have HZ : Hid (N = 0) := h0
  have hN : N ≤ 1000000 := by omega
  clear hd ha h0 he
  go_enter Tryz.func10, Tryz.ntmps10
  go_wp2_with fail
  refine HM.out.mono ?_
  rintro e w1 ⟨rfl, hb1⟩
  have HB1 : Hid (Below w.heap.size w w1) := st HB.out hb1
  have hres := (hb1.block w.heap.size hl0).trans hn0
  have hl1 : w.heap.size < w1.heap.size := Nat.lt_of_lt_of_le hl0 hb1.size
  have HRS := Lib.hid hres
  clear hb1 hn0 hl0 HM HB hres
  go_wp2_with fail
  go_loopw [24] (fun i wr => ∃ k : Nat, k ≤ N ∧ i = .int .i64 k ∧ Hid (Below w1.heap.size w1 wr)) (fun i _ => N - (intOf i).toNat)
  case atStart => exact ⟨0, Nat.zero_le _, rfl, Below.refl _ _⟩
  case round =>
    obtain ⟨k, hk, rfl, HBr⟩ := hrel
    by_cases hlt : k < N
    · exact absurd hlt (by have := HZ.out; omega)
    · obtain rfl : k = N := by omega
      obtain ⟨wo, rfl⟩ : ∃ wo, wo = wr := ⟨_, rfl⟩
      have HWr : Hid (Below w.heap.size w wo) := st HB1.out HBr.out
      have hV := c_cells wo C k ccap
      have HV := Lib.hid hV
      have HBv : Hid (Below wo.heap.size wo (wo.alloc (.cells #[.slice C k ccap] 24))) := bel_nw wo _
      have hnv := heap_alloc_new wo (.cells #[.slice C k ccap] 24)
      have HSo := Lib.hid (c_sortedN (wo.alloc (.cells #[.slice C k ccap] 24)) wo.heap.size C k ccap n (fun _ _ => 0) (fun _ => .slice none n 0) (fun _ => .slice none 0 0) HZ.out
        (fun W hW => by
          refine ⟨?_, fun j hj => absurd hj (by have := HZ.out; omega)⟩
          have h9 := (hW.block wo.heap.size (by simp)).trans hnv
          simp [World.cell?, h9])
        (fun _ => ⟨_, _, _, _, _, rfl, rfl, trivial⟩))
      clear hV hnv
      go_wp2_with (first
        | (go_at_call 38; refine HV.out.mono ?_; rintro e w5 ⟨rfl, rfl⟩)
        | (go_at_call 37; refine HSo.out.mono ?_; rintro e w6 ⟨b, rfl, hb6, -, hbl6⟩; have HB6 := Lib.hid (st HBv.out hbl6)))
      have HW6 : Hid (Below w.heap.size w w6) := st HWr.out HB6.out
      clear HSo HV
      go_loopw [13] (fun i wr2 => i = .int .i64 1 ∧ Hid (Below w6.heap.size w6 wr2)) (fun i _ => k - (intOf i).toNat)
      case atStart => exact ⟨rfl, Below.refl _ _⟩
      case round =>
        obtain ⟨rfl, HBj⟩ := hrel
        by_cases hlt : (1 : Int) < k
        · exact absurd hlt (by have := HZ.out; omega)
        · have HWj : Hid (Below w.heap.size w wr) := st HW6.out HBj.out
          have HCp := Lib.hid (s_copied wr A B (some ⟨b, 0, none⟩) n cap m bcap k k nm lo hi an ty c (HD.out.below HWj.out) (HA.out.below HWj.out) (fun h => absurd h (by have := HZ.out; omega)) (by omega) hm hN (fun t ht => absurd ht (by have := HZ.out; omega)))
          have hres := ((HBj.out.block w.heap.size (Nat.lt_of_lt_of_le hl1 (by have := HB6.out.size; have := HBr.out.size; omega))).trans ((HB6.out.block w.heap.size (Nat.lt_of_lt_of_le hl1 HBr.out.size)).trans ((HBr.out.block w.heap.size hl1).trans HRS.out)))
          have HRJ := Lib.hid hres
          have hlj : w.heap.size < wr.heap.size := (Array.getElem?_eq_some_iff.1 hres).1
          clear hres
          go_wp2_with fail
          refine HCp.out.mono ?_
          rintro e w8 ⟨pp, rfl, hup, hb8⟩
          have HB8 : Hid (Below w.heap.size w w8) := st HWj.out hb8
          have hres := (hb8.block w.heap.size hlj).trans HRJ.out
          obtain ⟨⟨r0, r1, r2⟩, f0, f1, f2⟩ := three_at hres
          have HUP := Lib.hid hup
          have HSZ : Hid (wr.heap.size ≤ w8.heap.size) := hb8.size
          have HSZ2 : Hid (w.heap.size < wr.heap.size) := hlj
          clear hb8 hup
          go_wp2
          refine bodyPost_ret (v := .tuple #[pp.val n m k, .int .i64 0]) (res_cell_tmp Tryz.results10 _ _ w.heap.size 29 _ (0, 0) _ rfl (three_set hres _ _ _) Tryz.underlying29 rfl (by rw [info_arr]; rfl)) rfl ?_
          have gr : w8.grownBy (((w8.setCell ⟨w.heap.size, 0, none⟩ (.slice pp.A n pp.cap)).setCell ⟨w.heap.size, 1, none⟩ (.slice pp.B m pp.bcap)).setCell ⟨w.heap.size, 2, none⟩ (.slice pp.C k pp.ccap)) (some w.heap.size) := gr2 (gr2 (grown_set _ _ _ _) (grown_set _ _ _ _)) (grown_set _ _ _ _)
          have hg := HUP.out.grown gr HSZ2.out
          have hle : w.heap.size ≤ wr.heap.size := Nat.le_of_lt HSZ2.out
          exact ⟨pp, rfl, ⟨hg.dims, hg.attrs, hg.cells.mono hle, hg.upA.mono hle, hg.upB.mono hle⟩, ((HB8.out.setCell (p := ⟨w.heap.size, 0, none⟩) (Nat.le_refl _) _).setCell (p := ⟨w.heap.size, 1, none⟩) (Nat.le_refl _) _).setCell (p := ⟨w.heap.size, 2, none⟩) (Nat.le_refl _) _⟩
end Go.Proofs.YtogmbehomilalaaGreatDoor
end
