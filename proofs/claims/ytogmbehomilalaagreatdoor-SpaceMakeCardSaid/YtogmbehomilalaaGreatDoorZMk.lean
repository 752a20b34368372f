/- Make: too many cells, or none of them in error. -/
import Derived.Test.YtogmbehomilalaaGreatDoorZSoC
import Derived.Test.YtogmbehomilalaaGreatDoorZPrt2
import Derived.Test.YtogmbehomilalaaGreatDoorZNoAr
namespace Go.Proofs.YtogmbehomilalaaGreatDoor
open Go Go.RowKit Go.Deep

set_option maxRecDepth 100000 in
set_option maxHeartbeats 4000000 in
/-- Too many cells, or a schema that is none. -/
theorem s_Make_many (w : World) (A B C : Option Addr) (n cap m bcap N ccap : Nat) (nm : Nat → ByteArray) (lo hi : Nat → Int) (an : Nat → ByteArray) (ty : Nat → Int) (hd : DimsAt w A n nm lo hi) (ha : AttrsAt w B m an ty) (he : manyE nm lo hi n an ty m N ≠ 0) :
    Calls Tryz.prog 10 #[.slice A n cap, .slice B m bcap, .slice C N ccap] w fun e w' => e = .returned (.tuple #[ArrV none 0 0 none 0 0 none 0 0, .int .i64 (manyE nm lo hi n an ty m N)]) ∧ Below w.heap.size w w' := by
  have HB : Hid (Below w.heap.size w (w.alloc (.cells #[.slice none 0 0, .slice none 0 0, .slice none 0 0] 29))) := (Below.refl _ _).alloc (Nat.le_refl _) _
  have HM := Lib.hid (s_manyError (w.alloc (.cells #[.slice none 0 0, .slice none 0 0, .slice none 0 0] 29)) A B C n cap m bcap N ccap nm lo hi an ty (hd.below HB.out) (ha.below HB.out))
  have hn0 := heap_alloc_new w (.cells #[.slice none 0 0, .slice none 0 0, .slice none 0 0] 29)
  have hl0 : w.heap.size < (w.alloc (.cells #[.slice none 0 0, .slice none 0 0, .slice none 0 0] 29)).heap.size := by simp
  clear hd ha
  generalize manyE nm lo hi n an ty m N = E at *
  have h1 : (E != 0) = true := by rw [bne_iff_ne]; exact he
  clear he
  go_enter Tryz.func10, Tryz.ntmps10
  go_wp2_with fail
  refine HM.out.mono ?_
  rintro e w1 ⟨rfl, hb1⟩
  have HB1 : Hid (Below w.heap.size w w1) := st HB.out hb1
  have hres := (hb1.block w.heap.size hl0).trans hn0
  obtain ⟨⟨r0, r1, r2⟩, f0, f1, f2⟩ := three_at hres
  clear hb1 hn0 hl0 HM
  go_wp2
  refine bodyPost_ret (v := .tuple #[ArrV none 0 0 none 0 0 none 0 0, .int .i64 E]) (res_cell_tmp Tryz.results10 _ _ w.heap.size 29 _ (0, 0) _ rfl (three_set hres _ _ _) Tryz.underlying29 rfl (by rw [info_arr]; rfl)) rfl ?_
  exact ⟨rfl, ((HB1.out.setCell (p := ⟨w.heap.size, 0, none⟩) (Nat.le_refl _) _).setCell (p := ⟨w.heap.size, 1, none⟩) (Nat.le_refl _) _).setCell (p := ⟨w.heap.size, 2, none⟩) (Nat.le_refl _) _⟩
/-- A number below N, whatever t is. -/
def clN (N t : Nat) : Nat := if t < N then t else 0
theorem clN_lt {N : Nat} (h : 1 ≤ N) (t : Nat) : clN N t < N := by unfold clN; split <;> omega
theorem clN_id {N t : Nat} (h : t < N) : clN N t = t := if_pos h
/-- Cells in another order. -/
def CeD.re (c : CeD) (r : Nat → Nat) : CeD := ⟨fun k => c.ln (r k), fun k => c.vl (r k), fun k => c.x (r k), fun k => c.vk (r k), fun k => c.vn (r k), fun k => c.vd (r k), fun k => c.vs (r k)⟩
set_option maxRecDepth 100000 in
set_option maxHeartbeats 8000000 in
theorem s_Make_ok (w : World) (A B C : Option Addr) (n cap m bcap N ccap : Nat) (nm : Nat → ByteArray) (lo hi : Nat → Int) (an : Nat → ByteArray) (ty : Nat → Int) (c : CeD) (hd : DimsAt w A n nm lo hi) (ha : AttrsAt w B m an ty) (hc : CeAt w C N c) (hn1 : 1 ≤ n) (hn : n ≤ 1000) (hm : m ≤ 1000) (hN1 : 1 ≤ N) (hN : N ≤ 1000000) (ho : CeOk N c)
    (he : manyE nm lo hi n an ty m N = 0) (hce : ∀ k, k < N → cellE lo hi n ty m (c.x k) (c.ln k) (c.vk k) (c.vn k) (c.vd k) (c.vs k) (c.vl k) = 0)
    (hdi : ∀ j, 1 ≤ j → j < N → cmpS n n (c.x ((numR n (fun t => c.x (clN N t)) N)[j - 1]!)) (c.x ((numR n (fun t => c.x (clN N t)) N)[j]!)) ≠ 0) :
    Calls Tryz.prog 10 #[.slice A n cap, .slice B m bcap, .slice C N ccap] w fun e w' => ∃ p : ArP, e = .returned (.tuple #[p.val n m N, .int .i64 0]) ∧ ArUp w' w.heap.size p ⟨n, nm, lo, hi, m, an, ty, N, c.re (fun j => (numR n (fun t => c.x (clN N t)) N)[j]!)⟩ ∧ Below w.heap.size w w' := by
  have hln : ∀ k, k < N → c.ln k = n ∧ c.vl k = m := fun k hk => by
    have h := hce k hk
    unfold cellE at h
    by_cases e : c.ln k ≠ n ∨ c.vl k ≠ m
    · rw [if_pos e] at h; cases h
    · omega
  have HB : Hid (Below w.heap.size w (w.alloc (.cells #[.slice none 0 0, .slice none 0 0, .slice none 0 0] 29))) := (Below.refl _ _).alloc (Nat.le_refl _) _
  have HM := Lib.hid (s_manyError (w.alloc (.cells #[.slice none 0 0, .slice none 0 0, .slice none 0 0] 29)) A B C n cap m bcap N ccap nm lo hi an ty (hd.below HB.out) (ha.below HB.out))
  rw [he] at HM
  have hn0 := heap_alloc_new w (.cells #[.slice none 0 0, .slice none 0 0, .slice none 0 0] 29)
  have hl0 : w.heap.size < (w.alloc (.cells #[.slice none 0 0, .slice none 0 0, .slice none 0 0] 29)).heap.size := by simp
  have HD := Lib.hid hd
  have HA := Lib.hid ha
  have HC := Lib.hid hc
  have HO := Lib.hid ho
  have HCE := Lib.hid hce
  have HDI := Lib.hid hdi
  have HLN := Lib.hid hln
  clear hd ha hc ho hce hdi hln he
  go_enter Tryz.func10, Tryz.ntmps10
  go_wp2_with fail
  refine HM.out.mono ?_
  rintro e w1 ⟨rfl, hb1⟩
  have HB1 : Hid (Below w.heap.size w w1) := st HB.out hb1
  have hres := (hb1.block w.heap.size hl0).trans hn0
  have hl1 : w.heap.size < w1.heap.size := Nat.lt_of_lt_of_le hl0 hb1.size
  have HRS := Lib.hid hres
  clear hb1 hn0 hl0 HM HB hres
  obtain ⟨bc, oc, rfl, hbc, hcs⟩ := HC.out (by omega)
  have hex : ∀ t, ∃ pq : Value × Value, (∃ P pc X d, pq.1 = .slice P n pc ∧ pq.2 = .slice X m d ∧ IntsAt w P n (c.x (clN N t)) ∧ ValsAt w X m (c.vk (clN N t)) (c.vn (clN N t)) (c.vd (clN N t)) (c.vs (clN N t))) ∧ w.cell? ⟨bc, oc + clN N t * 2, none⟩ = some pq.1 ∧ w.cell? ⟨bc, oc + clN N t * 2 + 1, none⟩ = some pq.2 := fun t => by
    obtain ⟨P, pc, X, d, h1, h2, h3, h4, _⟩ := hcs _ (clN_lt hN1 t)
    obtain ⟨e1, e2⟩ := HLN.out _ (clN_lt hN1 t)
    rw [e1] at h1 h3
    rw [e2] at h2 h4
    exact ⟨(_, _), ⟨P, pc, X, d, rfl, rfl, h3, h4⟩, h1, h2⟩
  obtain ⟨pq, hpq⟩ := Classical.axiomOfChoice hex
  have HPQ := Lib.hid hpq
  have HBC := Lib.hid hbc
  clear hex hpq hcs hbc HC
  go_wp2_with fail
  go_loopw [24] (fun i wr => ∃ k : Nat, k ≤ N ∧ i = .int .i64 k ∧ Hid (Below w1.heap.size w1 wr)) (fun i _ => N - (intOf i).toNat)
  case atStart => exact ⟨0, Nat.zero_le _, rfl, Below.refl _ _⟩
  case round =>
    obtain ⟨k, hk, rfl, HBr⟩ := hrel
    by_cases hlt : k < N
    · obtain ⟨⟨P, pc, X, d, e1, e2, h3, h4⟩, h1, h2⟩ := HPQ.out k
      rw [clN_id hlt] at h1 h2 h3 h4
      rw [e1] at h1
      rw [e2] at h2
      have HWr : Hid (Below w.heap.size w wr) := st HB1.out HBr.out
      have x0 := (HWr.out.cell (p := ⟨bc, oc + k * 2, none⟩) HBC.out).trans h1
      have x1 := (HWr.out.cell (p := ⟨bc, oc + k * 2 + 1, none⟩) HBC.out).trans h2
      have HCe : Hid (∀ W, Below wr.heap.size wr W → Calls Tryz.prog 36 #[.slice A n cap, .slice B m bcap, CelV P n pc X m d] W fun e w' => e = .returned (.int .i64 0) ∧ Below W.heap.size W w') := fun W hW => by
        have hh := st HWr.out hW
        have h9 := s_cellError W A B P X n cap m bcap n pc m d nm lo hi an ty (c.x k) (c.vk k) (c.vn k) (c.vd k) (c.vs k) (HD.out.below hh) (HA.out.below hh) (h3.below hh) (h4.below hh) (by omega) (by omega) (by omega)
        have h8 := HCE.out k hlt
        obtain ⟨l1, l2⟩ := HLN.out k hlt
        rw [l1, l2] at h8
        rwa [h8] at h9
      clear h1 h2 h3 h4 e1 e2
      go_wp2_with (go_at_call 36; refine (HCe.out _ (bel_nw wr _)).mono ?_; rintro e w5 ⟨rfl, hb5⟩; have HB5 := Lib.hid (st (bel_nw wr (.cells #[.slice P n pc, .slice X m d] 38)) hb5))
      go_roundw
      case rel => exact ⟨k + 1, by omega, by go_num, st HBr.out HB5.out⟩
      case measure => simp [intOf]; omega
    · obtain rfl : k = N := by omega
      obtain ⟨wo, rfl⟩ : ∃ wo, wo = wr := ⟨_, rfl⟩
      have HWr : Hid (Below w.heap.size w wo) := st HB1.out HBr.out
      have hV := c_cells wo (some ⟨bc, oc, none⟩) k ccap
      have HV := Lib.hid hV
      have HBv : Hid (Below wo.heap.size wo (wo.alloc (.cells #[.slice (some ⟨bc, oc, none⟩) k ccap] 24))) := bel_nw wo _
      have hnv := heap_alloc_new wo (.cells #[.slice (some ⟨bc, oc, none⟩) k ccap] 24)
      have HSo := Lib.hid (c_sortedC (wo.alloc (.cells #[.slice (some ⟨bc, oc, none⟩) k ccap] 24)) wo.heap.size (some ⟨bc, oc, none⟩) k ccap n (fun t => c.x (clN k t)) (fun t => (pq t).1) (fun t => (pq t).2) hN1 hN hn1 (by omega)
        (fun W hW => by
          refine ⟨?_, fun j hj => ⟨bc, oc, rfl, ?_, ?_⟩⟩
          · have h9 := (hW.block wo.heap.size (by simp)).trans hnv
            simp [World.cell?, h9]
          · obtain ⟨_, h1, _⟩ := HPQ.out j
            rw [clN_id hj] at h1
            exact ((st (st HWr.out HBv.out) hW).cell (p := ⟨bc, oc + j * 2, none⟩) HBC.out).trans h1
          · obtain ⟨_, _, h2⟩ := HPQ.out j
            rw [clN_id hj] at h2
            exact ((st (st HWr.out HBv.out) hW).cell (p := ⟨bc, oc + j * 2 + 1, none⟩) HBC.out).trans h2)
        (fun t => by
          obtain ⟨⟨P, pc, X, d, e1, e2, h3, _⟩, _, _⟩ := HPQ.out t
          exact ⟨P, pc, X, m, d, e1, e2, h3.below (st HWr.out HBv.out)⟩))
      clear hV hnv
      go_wp2_with (first
        | (go_at_call 38; refine HV.out.mono ?_; rintro e w5 ⟨rfl, rfl⟩)
        | (go_at_call 37; refine HSo.out.mono ?_; rintro e w6 ⟨b, rfl, hb6, hcb, hbl6⟩; have HB6 := Lib.hid (st HBv.out hbl6); have HCB := Lib.hid hcb))
      have HW6 : Hid (Below w.heap.size w w6) := st HWr.out HB6.out
      obtain ⟨r, hr⟩ : ∃ r : Nat → Nat, r = fun j => (numR n (fun t => c.x (clN k t)) k)[j]! := ⟨_, rfl⟩
      have HCL : Hid (∀ W, Below w6.heap.size w6 W → ∀ j, j < k → ∃ P pc X d, W.cell? ⟨b, j * 2, none⟩ = some (.slice P n pc) ∧ W.cell? ⟨b, j * 2 + 1, none⟩ = some (.slice X m d) ∧ IntsAt W P n (c.x (r j)) ∧ ValsAt W X m (c.vk (r j)) (c.vn (r j)) (c.vd (r j)) (c.vs (r j))) := fun W hW j hj => by
        have hrj : r j < k := by rw [hr]; exact numR_lt n _ k j hj
        obtain ⟨⟨P, pc, X, d, e1, e2, h3, h4⟩, _, _⟩ := HPQ.out (r j)
        rw [clN_id hrj] at h3 h4
        obtain ⟨x0, x1⟩ := HCB.out j hj
        have er : (numR n (fun t => c.x (clN k t)) k)[j]! = r j := by rw [hr]
        rw [er] at x0 x1
        rw [e1] at x0
        rw [e2] at x1
        have hb6' : b < w6.heap.size := cell_lt' x0
        exact ⟨P, pc, X, d, (hW.cell (p := ⟨b, j * 2, none⟩) hb6').trans x0, (hW.cell (p := ⟨b, j * 2 + 1, none⟩) hb6').trans x1, h3.below (st HW6.out hW), h4.below (st HW6.out hW)⟩
      have HDJ : Hid (∀ j, 1 ≤ j → j < k → cmpS n n (c.x (r (j - 1))) (c.x (r j)) ≠ 0) := fun j h1 h2 => by
        rw [hr]
        exact HDI.out j h1 h2
      have HRL : Hid (∀ j, j < k → r j < k) := fun j hj => by rw [hr]; exact numR_lt n _ k j hj
      have HRE := Lib.hid hr
      have hbw6 : b < w6.heap.size := by
        obtain ⟨x0, _⟩ := HCB.out 0 (by omega)
        exact cell_lt' x0
      clear hr HCB HSo HV HPQ HDI
      have HSC := Lib.hid s_Compare
      go_loopw [13] (fun i wr2 => ∃ j : Nat, 1 ≤ j ∧ j ≤ k ∧ i = .int .i64 j ∧ Hid (Below w6.heap.size w6 wr2)) (fun i _ => k - (intOf i).toNat)
      case atStart => exact ⟨1, Nat.le_refl _, by omega, rfl, Below.refl _ _⟩
      case round =>
        obtain ⟨j, hj1, hj, rfl, HBj⟩ := hrel
        by_cases hlt : j < k
        · obtain ⟨i, hij⟩ : ∃ i, j = i + 1 := ⟨j - 1, by omega⟩
          have hne := HDJ.out j hj1 hlt
          rw [show j - 1 = i by omega] at hne
          have HBw : Hid (Below w.heap.size w wr) := st HW6.out HBj.out
          have HK2 : Hid (∃ P pc P' pc', (∀ W, Below wr.heap.size wr W → W.cell? ⟨b, i * 2, none⟩ = some (.slice P n pc) ∧ W.cell? ⟨b, j * 2, none⟩ = some (.slice P' n pc')) ∧ ∀ W, Below wr.heap.size wr W → Calls Tryz.prog 40 #[.slice P n pc, .slice P' n pc'] W fun e w' => e = .returned (.int .i64 (cmpS n n (c.x (r i)) (c.x (r j)))) ∧ w' = W) := by
            obtain ⟨P, pc, X, d, y0, _, h3, _⟩ := HCL.out wr HBj.out i (by omega)
            obtain ⟨P', pc', X', d', z0, _, h3', _⟩ := HCL.out wr HBj.out j hlt
            have hbw : b < wr.heap.size := cell_lt' y0
            exact ⟨P, pc, P', pc', fun W hW => ⟨(hW.cell (p := ⟨b, i * 2, none⟩) hbw).trans y0, (hW.cell (p := ⟨b, j * 2, none⟩) hbw).trans z0⟩, fun W hW => HSC.out W P P' n pc n pc' _ _ (h3.below hW) (h3'.below hW) (by omega) (by omega)⟩
          obtain ⟨P, pc, P', pc', hcl, hco⟩ := HK2.out
          have HCX := Lib.hid hcl
          have HCO := Lib.hid hco
          obtain ⟨y0, y1⟩ := hcl wr (Below.refl _ _)
          clear hcl hco HK2
          generalize cmpS n n (c.x (r i)) (c.x (r j)) = z at *
          have hz0 : (z == 0) = false := by rw [beq_eq_false_iff_ne]; exact hne
          have hw : IntKind.i64.wrap ((j : Int) - 1) = ((i : Nat) : Int) := by rw [w64 (by omega) (by omega)]; omega
          have q0 : (0 : Int) ≤ (i : Int) := by omega
          have q1 : (i : Int) < (k : Int) := by omega
          have q2 : (0 : Int) ≤ (j : Int) := by omega
          have q3 : (j : Int) < (k : Int) := by omega
          have B0d : Below wr.heap.size wr wr.drew := Below.drew (Below.refl _ _)
          clear hne hij
          go_wp2_with fail
          go_region_held3 (fun W => W.cell? ⟨b, i * 2, none⟩ = some (.slice P n pc) ∧ W.cell? ⟨b, j * 2, none⟩ = some (.slice P' n pc'))
            (first | exact HCX.out _ B0d | exact HCX.out _ (Below.refl _ _))
            (first | (go_at_call 40; refine (HCO.out _ B0d).mono ?_; rintro e w7 ⟨rfl, rfl⟩))
          have HBd : Hid (Below w6.heap.size w6 wr.drew) := HBj.out.drew
          go_wp2_with fail
          go_roundw
          case rel => exact ⟨j + 1, by omega, by omega, by go_num, HBd.out⟩
          case measure => simp [intOf]; omega
        · obtain rfl : j = k := by omega
          have HWj : Hid (Below w.heap.size w wr) := st HW6.out HBj.out
          have hCe : CeAt wr (some ⟨b, 0, none⟩) j (c.re r) := fun _ => ⟨b, 0, rfl, Nat.lt_of_lt_of_le hbw6 HBj.out.size, fun t ht => by
            obtain ⟨P, pc, X, d, y0, y1, h3, h4⟩ := HCL.out wr HBj.out t ht
            obtain ⟨l1, l2⟩ := HLN.out (r t) (HRL.out t ht)
            refine ⟨P, pc, X, d, ?_, ?_, ?_, ?_, ?_⟩
            · rw [Nat.zero_add]; show _ = some (Value.slice P (c.ln (r t)) pc); rw [l1]; exact y0
            · rw [Nat.zero_add]; show _ = some (Value.slice X (c.vl (r t)) d); rw [l2]; exact y1
            · show IntsAt wr P (c.ln (r t)) (c.x (r t)); rw [l1]; exact h3
            · show ValsAt wr X (c.vl (r t)) _ _ _ _; rw [l2]; exact h4
            · show c.ln (r t) ≤ 1000; omega⟩
          have hCo : CeOk j (c.re r) := fun t ht => HO.out (r t) (HRL.out t ht)
          have HCp := Lib.hid (s_copied wr A B (some ⟨b, 0, none⟩) n cap m bcap j j nm lo hi an ty (c.re r) (HD.out.below HWj.out) (HA.out.below HWj.out) hCe (by omega) hm hN hCo)
          have hres := ((HBj.out.block w.heap.size (Nat.lt_of_lt_of_le hl1 (by have := HB6.out.size; have := HBr.out.size; omega))).trans ((HB6.out.block w.heap.size (Nat.lt_of_lt_of_le hl1 HBr.out.size)).trans ((HBr.out.block w.heap.size hl1).trans HRS.out)))
          have HRJ := Lib.hid hres
          have hlj : w.heap.size < wr.heap.size := (Array.getElem?_eq_some_iff.1 hres).1
          clear hCe hCo hres
          go_wp2_with fail
          refine HCp.out.mono ?_
          rintro e w8 ⟨pp, rfl, hup, hb8⟩
          have HB8 : Hid (Below w.heap.size w w8) := st HWj.out hb8
          have hres := (hb8.block w.heap.size hlj).trans HRJ.out
          obtain ⟨⟨r0, r1, r2⟩, f0, f1, f2⟩ := three_at hres
          have HUP := Lib.hid hup
          have HSZ : Hid (wr.heap.size ≤ w8.heap.size) := hb8.size
          have HSZ2 : Hid (w.heap.size < wr.heap.size) := hlj
          rw [HRE.out] at HUP
          clear hb8 hup
          go_wp2
          refine bodyPost_ret (v := .tuple #[pp.val n m j, .int .i64 0]) (res_cell_tmp Tryz.results10 _ _ w.heap.size 29 _ (0, 0) _ rfl (three_set hres _ _ _) Tryz.underlying29 rfl (by rw [info_arr]; rfl)) rfl ?_
          have gr : w8.grownBy (((w8.setCell ⟨w.heap.size, 0, none⟩ (.slice pp.A n pp.cap)).setCell ⟨w.heap.size, 1, none⟩ (.slice pp.B m pp.bcap)).setCell ⟨w.heap.size, 2, none⟩ (.slice pp.C j pp.ccap)) (some w.heap.size) := gr2 (gr2 (grown_set _ _ _ _) (grown_set _ _ _ _)) (grown_set _ _ _ _)
          have hg := HUP.out.grown gr HSZ2.out
          have hle : w.heap.size ≤ wr.heap.size := Nat.le_of_lt HSZ2.out
          exact ⟨pp, rfl, ⟨hg.dims, hg.attrs, hg.cells.mono hle, hg.upA.mono hle, hg.upB.mono hle⟩, ((HB8.out.setCell (p := ⟨w.heap.size, 0, none⟩) (Nat.le_refl _) _).setCell (p := ⟨w.heap.size, 1, none⟩) (Nat.le_refl _) _).setCell (p := ⟨w.heap.size, 2, none⟩) (Nat.le_refl _) _⟩
end Go.Proofs.YtogmbehomilalaaGreatDoor
