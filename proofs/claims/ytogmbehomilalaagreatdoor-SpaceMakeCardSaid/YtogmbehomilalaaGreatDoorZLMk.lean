/- The walk of SpaceMake. -/
import Derived.Test.YtogmbehomilalaaGreatDoorZMkW
import Derived.Test.YtogmbehomilalaaGreatDoorZRfC
import Derived.Test.YtogmbehomilalaaGreatDoorZArGa
import Derived.Test.YtogmbehomilalaaGreatDoorZLSa
import Derived.Test.YtogmbehomilalaaGreatDoorZWka
import Derived.BigRegion
namespace Go.Proofs.YtogmbehomilalaaGreatDoor
open Go Go.RowKit Go.Deep

set_option maxRecDepth 100000 in
set_option maxHeartbeats 8000000 in
theorem l_make (w : World) (A B C : Option Addr) (n cap m bcap N ccap : Nat) (nm : Nat → ByteArray) (lo hi : Nat → Int) (an : Nat → ByteArray) (ty : Nat → Int) (c : CeD) (hd : DimsAt w A n nm lo hi) (ha : AttrsAt w B m an ty) (hc : CelsAt w C N c.ln c.vl c.x c.vk c.vn c.vd c.vs) (hs : ∀ k, k < n → (nm k).size ≤ 9223372036854775807) (hs2 : ∀ k, k < m → (an k).size ≤ 9223372036854775807) (hcs : ∀ k, k < N → c.ln k ≤ 9223372036854775807 ∧ c.vl k ≤ 9223372036854775807 ∧ ∀ j, j < c.vl k → (c.vs k j).size ≤ 9223372036854775807) (hcc : N ≤ ccap) (hw : WorksAt w) :
    Calls Tryz.prog 3 #[.slice A n cap, .slice B m bcap, .slice C N ccap] w fun e w' => e = .returned (.bool true) ∧ Below w.heap.size w w' := by
  have HW := Lib.hid hw
  have HD := Lib.hid hd
  have HA := Lib.hid ha
  have HC := Lib.hid hc
  have HS1 := Lib.hid hs
  have HS2 := Lib.hid hs2
  have HCS := Lib.hid hcs
  clear hw hd ha hc hs hs2 hcs
  go_enter Tryz.func3, Tryz.ntmps3
  go_wp2_with fail
  refine (l_schema3 w A B n cap m bcap nm lo hi an ty HD.out HA.out HS1.out HS2.out).mono ?_
  rintro e w1 ⟨he, hb1⟩
  have HB1 := Lib.hid hb1
  clear hb1
  rcases he with rfl | ⟨rfl, hn10, hm10⟩
  · go_wp2_with fail
    refine (HW.out _ HB1.out).mono ?_
    rintro e w2 ⟨rfl, hb2⟩
    go_wp2
    go_ret
    exact ⟨rfl, st HB1.out hb2⟩
  go_wp2_with fail
  refine (l_cells w1 C N ccap 60 c.ln c.vl c.x c.vk c.vn c.vd c.vs (HC.out.below HB1.out) (by decide) HCS.out).mono ?_
  rintro e w2 ⟨he, hb2⟩
  have HB2 : Hid (Below w.heap.size w w2) := st HB1.out hb2
  clear hb2
  rcases he with rfl | ⟨rfl, hcb⟩
  · go_wp2_with fail
    refine (HW.out _ HB2.out).mono ?_
    rintro e w3 ⟨rfl, hb3⟩
    go_wp2
    go_ret
    exact ⟨rfl, st HB2.out hb3⟩
  have hN60 : N ≤ 60 := by have := hcb.1; omega
  have HOk : Hid (CeOk N c) := fun k hk => ⟨by have := hcb.2 k hk; omega, by have := hcb.2 k hk; omega, (HCS.out k hk).2.2⟩
  have HCe : Hid (∀ W, Below w.heap.size w W → CeAt W C N c) := fun W hW h0 => by
    obtain ⟨b, o, e1, e2, e3⟩ := (HC.out.below hW) h0
    refine ⟨b, o, e1, e2, fun k hk => ?_⟩
    obtain ⟨P, pc, Q, qc, a1, a2, a3, a4⟩ := e3 k hk
    exact ⟨P, pc, Q, qc, a1, a2, a3, a4, by have := hcb.2 k hk; omega⟩
  have HAO : Hid (ArOk ⟨n, nm, lo, hi, m, an, ty, N, c⟩) := ⟨by show n ≤ 1000; omega, by show m ≤ 1000; omega, by show N ≤ 1000000; omega, HS1.out, HS2.out, HOk.out⟩
  have HRL : Hid (∀ j, j < N → srtR n N c j < N) := fun j hj => numR_lt n _ N j hj
  clear hcb HC HCS
  have HM1 := Lib.hid (r_MakeA w2 A B C n cap m bcap N ccap nm lo hi an ty c (HD.out.below HB2.out) (HA.out.below HB2.out) (HCe.out w2 HB2.out) (by omega) (by omega) hcc HOk.out HS1.out HS2.out)
  obtain ⟨E, hE⟩ : ∃ E, E = makE nm lo hi n an ty m N c (srtR n N c) := ⟨_, rfl⟩
  rw [← hE] at HM1
  have HE := Lib.hid hE
  clear hE
  go_wp2_with fail
  refine HM1.out.mono ?_
  rintro e w3 ⟨L, ⟨-, hL⟩, hmk, hb3⟩
  obtain ⟨p1, D1, rfl, hu1, ho1⟩ := hmk.arr
  have HB3 : Hid (Below w.heap.size w w3) := st HB2.out hb3
  have HO1 := Lib.hid ho1
  have HL := Lib.hid hL
  have HU1 : Hid (ArAt (w3.alloc (p1.obj D1.n D1.m D1.N)) p1 D1) := hu1.at.below (bel_nw _ _)
  have HB4 : Hid (Below w.heap.size w (w3.alloc (p1.obj D1.n D1.m D1.N))) := st HB3.out (bel_nw _ _)
  have K7 := Lib.hid (heap_alloc_new w3 (p1.obj D1.n D1.m D1.N))
  have hl7 : w3.heap.size < (w3.alloc (p1.obj D1.n D1.m D1.N)).heap.size := by simp
  clear hmk hu1 ho1 hL hb3 HM1
  go_wp2_with fail
  generalize hw4 : w3.alloc (p1.obj D1.n D1.m D1.N) = w4 at *
  clear hw4
  refine (r_CopyT w4 ⟨A, cap, B, bcap, C, ccap⟩ ⟨n, nm, lo, hi, m, an, ty, N, c⟩ ⟨HD.out.below HB4.out, HA.out.below HB4.out, HCe.out _ HB4.out⟩ HAO.out).mono ?_
  rintro e w5 ⟨p2, rfl, hu2, ht2, hb5⟩
  have HB5 : Hid (Below w4.heap.size w4 w5) := hb5
  have HU2 := Lib.hid hu2
  have HT2 := Lib.hid ht2
  have K9 := Lib.hid (heap_alloc_new w5 (p2.obj n m N))
  have HB6 : Hid (Below w5.heap.size w5 (w5.alloc (p2.obj n m N))) := bel_nw _ _
  have hl9 : w5.heap.size < (w5.alloc (p2.obj n m N)).heap.size := by simp
  obtain ⟨⟨m0, m1, m2⟩, g0, g1, g2⟩ := three_at K9.out
  have HM3 := Lib.hid (s_MakeA (w5.alloc (p2.obj n m N)) p2.A p2.B p2.C n p2.cap m p2.bcap N p2.ccap nm lo hi an ty c (hu2.dims.below HB6.out) (hu2.attrs.below HB6.out) (hu2.cells.at.below HB6.out) (by omega) (by omega) (by omega) HOk.out)
  rw [← HE.out] at HM3
  clear hu2 ht2 hb5
  go_wp2_with fail
  generalize hw6 : w5.alloc (p2.obj n m N) = w6 at *
  clear hw6 m0 m1 m2 g0 g1 g2
  refine HM3.out.mono ?_
  rintro e w7 ⟨hmk, hb7⟩
  obtain ⟨p3, D3, rfl, hu3, ho3⟩ := hmk.arr
  have HB7 : Hid (Below w6.heap.size w6 w7) := hb7
  have HO3 := Lib.hid ho3
  have HU3 := Lib.hid hu3
  have K10 := Lib.hid (heap_alloc_new w7 (p3.obj D3.n D3.m D3.N))
  have HB8 : Hid (Below w7.heap.size w7 (w7.alloc (p3.obj D3.n D3.m D3.N))) := bel_nw _ _
  have hl10 : w7.heap.size < (w7.alloc (p3.obj D3.n D3.m D3.N)).heap.size := by simp
  have HBw8 : Hid (Below w4.heap.size w4 (w7.alloc (p3.obj D3.n D3.m D3.N))) := st (st (st HB5.out HB6.out) HB7.out) HB8.out
  have HF1 : Hid (∀ W, Below w4.heap.size w4 W → (W.cell? ⟨w3.heap.size, 0, none⟩ = some (.slice p1.A D1.n p1.cap) ∧ W.cell? ⟨w3.heap.size, 1, none⟩ = some (.slice p1.B D1.m p1.bcap) ∧ W.cell? ⟨w3.heap.size, 2, none⟩ = some (.slice p1.C D1.N p1.ccap))) := fun W hW => (three_at ((hW.block _ hl7).trans K7.out)).1
  obtain ⟨n0, n1, n2⟩ := HF1.out _ HBw8.out
  obtain ⟨⟨o0, o1, o2⟩, g0, g1, g2⟩ := three_at K10.out
  have hee : (E != E) = false := bne_self_eq_false E
  have HDS : Hid (E = 0 → ArOk ⟨n, nm, lo, hi, m, an, ty, N, c.re (srtR n N c)⟩) := fun _ => ok_re HAO.out _ HRL.out
  have HDL : Hid (E = 0 → ArOk ⟨n, nm, lo, hi, m, an, ty, N, c.re fun j => L[j]!⟩) := fun h => ok_re HAO.out _ (fun j hj => (HL.out h j hj).2)
  have HQ1 := ar_Equal (w7.alloc (p3.obj D3.n D3.m D3.N)) p3 p1 D3 D1 (hu3.at.below HB8.out) (HO3.out.ok HDS.out) (HU1.out.below HBw8.out) (HO1.out.ok HDL.out)
  have HEq1 : Hid (eqAr D3 D1 = true) := HO3.out.eq HO1.out Iff.rfl (fun h => eq_orders ⟨n, nm, lo, hi, m, an, ty, N, c⟩ c _ _ (fun j hj => ((HL.out h j hj).1).symm))
  rw [HEq1.out] at HQ1
  have HQ1 := Lib.hid HQ1
  clear hmk hu3 ho3 hb7 HM3
  go_wp2_with (go_at_call 11; refine HQ1.out.mono ?_; rintro e w9 ⟨rfl, hb9⟩; have HB9 := Lib.hid (st HBw8.out hb9))
  have HB59 : Hid (Below w5.heap.size w5 w9) := st (st (st HB6.out HB7.out) HB8.out) hb9
  have h56 : w5.heap.size ≤ w6.heap.size := HB6.out.size
  have h57 : w5.heap.size ≤ w7.heap.size := Nat.le_trans h56 HB7.out.size
  have HKp : Hid (Keep w4 w5.heap.size w5.heap.size (.cells #[.slice p2.A n p2.cap, .slice p2.B m p2.bcap, .slice p2.C N p2.ccap] 29 (0, 0)) w7.heap.size (.cells #[.slice p3.A D3.n p3.cap, .slice p3.B D3.m p3.bcap, .slice p3.C D3.N p3.ccap] 29 (0, 0)) w6.heap.size p3 D3 p2.C N c.ln c.vl w9) :=
    ⟨HB9.out, HU3.out.below (st HB8.out hb9), ((st HB7.out (st HB8.out hb9)).block _ hl9).trans K9.out, (hb9.block _ hl10).trans K10.out, fun h0 => by
      obtain ⟨bm, h1, h2, h3⟩ := HT2.out.mine h0
      exact ⟨bm, h1, h3.below HB59.out⟩, Nat.le_refl _, h57, h56⟩
  clear hb9 HQ1 n0 n1 n2 o0 o1 o2 g0 g1 g2 hee
  have HBM9 : Hid (∀ W, Keep w4 w5.heap.size w5.heap.size (.cells #[.slice p2.A n p2.cap, .slice p2.B m p2.bcap, .slice p2.C N p2.ccap] 29 (0, 0)) w7.heap.size (.cells #[.slice p3.A D3.n p3.cap, .slice p3.B D3.m p3.bcap, .slice p3.C D3.N p3.ccap] 29 (0, 0)) w6.heap.size p3 D3 p2.C N c.ln c.vl W → W.cell? ⟨w5.heap.size, 2, none⟩ = some (.slice p2.C N p2.ccap)) := fun W h => (three_at h.row).1.2.2
  obtain ⟨KP, hKP⟩ : ∃ KP : World → Prop, KP = Keep w4 w5.heap.size w5.heap.size (.cells #[.slice p2.A n p2.cap, .slice p2.B m p2.bcap, .slice p2.C N p2.ccap] 29 (0, 0)) w7.heap.size (.cells #[.slice p3.A D3.n p3.cap, .slice p3.B D3.m p3.bcap, .slice p3.C D3.N p3.ccap] 29 (0, 0)) w6.heap.size p3 D3 p2.C N c.ln c.vl := ⟨_, rfl⟩
  rw [← hKP] at HKp HBM9
  have HKE := Lib.hid hKP
  clear hKP
  go_loopw [12, 13, 14] (fun i _ _ wr => ∃ k : Nat, k ≤ N ∧ i = .int .i64 k ∧ Hid (KP wr)) (fun i _ _ _ => N - (intOf i).toNat)
  case atStart => exact ⟨0, Nat.zero_le _, rfl, HKp⟩
  case round =>
    obtain ⟨k, hk, rfl, HKr⟩ := hrel
    have z2 := HBM9.out wr HKr.out
    by_cases hlt : k < N
    · have HLk : Hid (c.ln k ≤ 1000) := (HOk.out k hlt).1
      have HVk : Hid (c.vl k ≤ 1000) := (HOk.out k hlt).2.1
      have HA3 : Hid (∀ W, KP W → ∃ b P pc Q qc, W.cell? ⟨w5.heap.size, 2, none⟩ = some (.slice (some ⟨b, 0, none⟩) N p2.ccap) ∧ W.cell? ⟨b, k * 2, none⟩ = some (.slice P (c.ln k) pc) ∧ W.cell? ⟨b, k * 2 + 1, none⟩ = some (.slice Q (c.vl k) qc) ∧ IntsK W w4.heap.size w5.heap.size P (c.ln k) ∧ ValsK W w4.heap.size w5.heap.size Q (c.vl k) ∧ ∃ cb, W.heap[b]? = some (.cells cb 38 (0, 0))) := fun W h => by
        rw [HKE.out] at h
        exact h.at3 hlt
      have hlt' : (k : Int) < (N : Int) := by omega
      have hk0 : (0 : Int) ≤ (k : Int) := by omega
      go_wp2_with fail
      generalize c.ln k = L at *
      obtain ⟨wo, rfl⟩ : ∃ wo, wo = wr := ⟨_, rfl⟩
      go_loopw [13] (fun i wr => ∃ t : Nat, t ≤ L ∧ i = .int .i64 t ∧ Hid (KP wr)) (fun i _ => L - (intOf i).toNat)
      case atStart => exact ⟨0, Nat.zero_le _, rfl, HKr⟩
      case round =>
        obtain ⟨t, ht, rfl, HKq⟩ := hrel
        obtain ⟨b, P, pc, Q, qc, y0, y1, y2, y3, y4, cb, hcb⟩ := HA3.out wr HKq.out
        by_cases hlt2 : t < L
        · obtain ⟨d, cs, rfl, d1, d2, d3, d4⟩ := y3 (by omega)
          obtain ⟨x, dx⟩ := d4 t hlt2
          have v0 : wr.cell? ⟨d, t, none⟩ = some (.int .i64 x) := by rw [cell_cs d3]; exact dx
          have v1 : wr.frozen? ⟨d, t, none⟩ = false := row_frz d3
          have hbd : b ≠ d := apart_u hcb d3 (by decide)
          have HD3 := Lib.hid d3
          have HY4 := Lib.hid y4
          have hlt3 : (t : Int) < (L : Int) := by omega
          have ht0 : (0 : Int) ≤ (t : Int) := by omega
          clear y4 d3 d4 dx hcb
          go_wp2_with fail
          go_region
          have HK1 : Hid (KP (wr.setCell ⟨d, t, none⟩ (.int .i64 (bits BinOp.xor IntKind.i64 x 1))).drew) := by
            have h := HKq.out
            show KP _
            rw [HKE.out] at h ⊢
            exact (h.int d1 d2 HD3.out _).drew
          have hL1 : L ≤ 1000 := HLk.out
          go_wp2
          go_roundw
          case rel => exact ⟨t + 1, by omega, by go_num, HK1⟩
          case measure => simp [intOf]; omega
        · obtain rfl : t = L := by omega
          clear y3 y4 hcb
          go_wp2_with fail
          generalize c.vl k = M at *
          obtain ⟨wo2, rfl⟩ : ∃ wo2, wo2 = wr := ⟨_, rfl⟩
          go_loopw [14] (fun i wr => ∃ t : Nat, t ≤ M ∧ i = .int .i64 t ∧ Hid (KP wr)) (fun i _ => M - (intOf i).toNat)
          case atStart => exact ⟨0, Nat.zero_le _, rfl, HKq⟩
          case round =>
            obtain ⟨s, hs9, rfl, HKs⟩ := hrel
            clear y0 y1 y2
            obtain ⟨b, P, pc, Q, qc, y0, y1, y2, y3, y4, cb, hcb⟩ := HA3.out wr HKs.out
            by_cases hlt2 : s < M
            · obtain ⟨d, cs, rfl, d1, d2, d3, d4⟩ := y4 (by omega)
              obtain ⟨x1, x2, x3, x4, v1, v2, v3, v4⟩ := d4 s hlt2
              rw [← cell_cs d3] at v1 v2 v3 v4
              have v5 : wr.frozen? ⟨d, s * 4, none⟩ = false := row_frz d3
              have v6 : wr.frozen? ⟨d, s * 4 + 1, none⟩ = false := row_frz d3
              have v7 : wr.frozen? ⟨d, s * 4 + 2, none⟩ = false := row_frz d3
              have v8 : wr.frozen? ⟨d, s * 4 + 3, none⟩ = false := row_frz d3
              have HD3 := Lib.hid d3
              have hlt3 : (s : Int) < (M : Int) := by omega
              have hs0 : (0 : Int) ≤ (s : Int) := by omega
              have hM1 : M ≤ 1000 := HVk.out
              clear y3 d3 d4 hcb
              go_wp2_with fail
              refine ⟨⟨s + 1, by omega, by go_num, ?_⟩, by simp [intOf]; omega⟩
              have h := HKs.out
              show KP _
              rw [HKE.out] at h ⊢
              have g1 := h.val (j := s) (t := 0) (v := .int .i64 0) d1 d2 HD3.out (.inl ⟨by decide, _, rfl⟩)
              have r1 := set_heap (j := s * 4) (v := .int .i64 0) HD3.out
              have g2 := g1.val (j := s) (t := 1) (v := .int .i64 0) d1 d2 r1 (.inl ⟨by decide, _, rfl⟩)
              have r2 := set_heap (j := s * 4 + 1) (v := .int .i64 0) r1
              have g3 := g2.val (j := s) (t := 2) (v := .int .i64 0) d1 d2 r2 (.inl ⟨by decide, _, rfl⟩)
              have r3 := set_heap (j := s * 4 + 2) (v := .int .i64 0) r2
              exact g3.val (j := s) (t := 3) (v := .string ⟨#[]⟩) d1 d2 r3 (.inr ⟨rfl, _, rfl⟩)
            · obtain rfl : s = M := by omega
              have hN9 : k < N := hlt
              clear y3 y4 hcb
              go_wp2_with fail
              exact ⟨⟨k + 1, by omega, by go_num, HKs⟩, by simp [intOf]; omega⟩
    · obtain rfl : k = N := by omega
      obtain ⟨wz, rfl⟩ : ∃ wz, wz = wr := ⟨_, rfl⟩
      have HKz : Hid (Keep w4 w5.heap.size w5.heap.size (.cells #[.slice p2.A n p2.cap, .slice p2.B m p2.bcap, .slice p2.C k p2.ccap] 29 (0, 0)) w7.heap.size (.cells #[.slice p3.A D3.n p3.cap, .slice p3.B D3.m p3.bcap, .slice p3.C D3.N p3.ccap] 29 (0, 0)) w6.heap.size p3 D3 p2.C k c.ln c.vl wz) := by
        have h := HKr.out
        rw [HKE.out] at h
        exact h
      have HBz : Hid (Below w.heap.size w wz) := st HB4.out HKz.out.bel
      have HTOk : Hid (CeOk k (c.turn k)) := fun j hj => HOk.out (k - 1 - j) (by omega)
      clear HKr HKE HBM9 HKp
      go_wp2_with fail
      clear z2
      go_loopw [15, 16] (fun v i wr => ∃ j : Nat, j ≤ k ∧ i = .int .i64 ((k : Int) - 1 - (j : Int)) ∧ Hid (Below wz.heap.size wz wr) ∧ Hid (OwnC (fun _ => True) wr wz.heap.size v j (c.turn k))) (fun _ i _ => (intOf i + 1).toNat)
      case atStart => exact ⟨0, Nat.zero_le _, by simp, Below.refl _ _, OwnC.nil _ _ _ _⟩
      case round =>
        obtain ⟨j, hj, rfl, HBr, HOw⟩ := hrel
        obtain ⟨XA, xc, hv, -⟩ := HOw.out.row
        subst hv
        by_cases hlt : j < k
        · obtain ⟨i, hi⟩ : ∃ i : Nat, i + j + 1 = k := ⟨k - 1 - j, by omega⟩
          have hij : (k : Int) - 1 - (j : Int) = (i : Int) := by omega
          rw [hij]
          have HBwr : Hid (Below w.heap.size w wr) := st HBz.out HBr.out
          obtain ⟨cb, co, rfl, hcl, hce⟩ := HCe.out wr HBwr.out (by omega)
          obtain ⟨P, pc, Q, qc, a1, a2, a3, a4, -⟩ := hce i (by omega)
          have ei : k - 1 - j = i := by omega
          have HQ : Hid ((wr.alloc (.cells #[.slice P (c.ln i) pc, .slice Q (c.vl i) qc] 38)).heap[wr.heap.size]? = some (.cells #[.slice P ((c.turn k).ln j) pc, .slice Q ((c.turn k).vl j) qc] 38 (0, 0)) ∧ IntsAt (wr.alloc (.cells #[.slice P (c.ln i) pc, .slice Q (c.vl i) qc] 38)) P ((c.turn k).ln j) ((c.turn k).x j) ∧ ValsAt (wr.alloc (.cells #[.slice P (c.ln i) pc, .slice Q (c.vl i) qc] 38)) Q ((c.turn k).vl j) ((c.turn k).vk j) ((c.turn k).vn j) ((c.turn k).vd j) ((c.turn k).vs j) ∧
              ((0 < (c.turn k).ln j → ∀ a, P = some a → (Value.slice XA j xc).ownBlock ≠ some a.block) ∧ (0 < (c.turn k).vl j → ∀ a, Q = some a → (Value.slice XA j xc).ownBlock ≠ some a.block))) := by
            have g0 := heap_alloc_new wr (.cells #[.slice P (c.ln i) pc, .slice Q (c.vl i) qc] 38)
            have g1 := a3.below (bel_nw wr (.cells #[.slice P (c.ln i) pc, .slice Q (c.vl i) qc] 38))
            have g2 := a4.below (bel_nw wr (.cells #[.slice P (c.ln i) pc, .slice Q (c.vl i) qc] 38))
            obtain ⟨cb0, co0, e0, hcl0, hce0⟩ := HCe.out wz HBz.out (by omega)
            injection e0 with e0
            injection e0 with e8 e9 _
            subst e8 e9
            obtain ⟨P0, pc0, Q0, qc0, b1, b2, b3, b4, -⟩ := hce0 i (by omega)
            rw [← HBr.out.cell (p := ⟨cb, co + i * 2, none⟩) hcl0, a1] at b1
            rw [← HBr.out.cell (p := ⟨cb, co + i * 2 + 1, none⟩) hcl0, a2] at b2
            injection b1 with b1
            injection b1 with b1 _ _
            injection b2 with b2
            injection b2 with b2 _ _
            subst b1 b2
            have g3 : 0 < c.ln i → ∀ a, P = some a → (Value.slice XA j xc).ownBlock ≠ some a.block := fun h a ha e => by
              have h8 := b3.row.lt h ha
              have := (HOw.out.block e).1
              omega
            have g4 : 0 < c.vl i → ∀ a, Q = some a → (Value.slice XA j xc).ownBlock ≠ some a.block := fun h a ha e => by
              have h8 := b4.row.lt h ha
              have := (HOw.out.block e).1
              omega
            show (wr.alloc (.cells #[.slice P (c.ln i) pc, .slice Q (c.vl i) qc] 38)).heap[wr.heap.size]? = some (.cells #[.slice P (c.ln (k - 1 - j)) pc, .slice Q (c.vl (k - 1 - j)) qc] 38 (0, 0)) ∧ IntsAt (wr.alloc (.cells #[.slice P (c.ln i) pc, .slice Q (c.vl i) qc] 38)) P (c.ln (k - 1 - j)) (c.x (k - 1 - j)) ∧ ValsAt (wr.alloc (.cells #[.slice P (c.ln i) pc, .slice Q (c.vl i) qc] 38)) Q (c.vl (k - 1 - j)) (c.vk (k - 1 - j)) (c.vn (k - 1 - j)) (c.vd (k - 1 - j)) (c.vs (k - 1 - j)) ∧ ((0 < c.ln (k - 1 - j) → _) ∧ (0 < c.vl (k - 1 - j) → _))
            rw [ei]
            exact ⟨g0, g1, g2, g3, g4⟩
          have HOe := Lib.hid (HOw.out.below (bel_nw wr (.cells #[.slice P (c.ln i) pc, .slice Q (c.vl i) qc] 38)))
          have hz4 : wz.heap.size ≤ (wr.alloc (.cells #[.slice P (c.ln i) pc, .slice Q (c.vl i) qc] 38)).heap.size := by have := HBr.out.size; simp; omega
          have HBa : Hid (Below wz.heap.size wz (wr.alloc (.cells #[.slice P (c.ln i) pc, .slice Q (c.vl i) qc] 38))) := HBr.out.trans ((bel_nw wr _).mono HBr.out.size)
          have hj9 : j ≤ 1000000 := by omega
          clear hce a3 a4
          generalize c.ln i = l1 at *
          generalize c.vl i = l2 at *
          go_wp2_with (at_builtin; refine wpList_appC rfl _ _ rfl (wr.alloc (.cells #[.slice P l1 pc, .slice Q l2 qc] 38)) (fun _ => True) wz.heap.size (.slice XA j xc) j (c.turn k) rfl wr.heap.size rfl P Q pc qc HQ.out.1 HQ.out.2.1 HQ.out.2.2.1 ⟨trivial, trivial⟩ HQ.out.2.2.2 HOe.out hj9 hz4 ?_; intro v4 w4 hown hgr hat; obtain ⟨A4, c4, hv4, -⟩ := hown.row; subst hv4; have HOn := Lib.hid hown; have HBn : Hid (Below wz.heap.size wz w4) := HBa.out.grown hgr hz4 (fun g hg => (HOe.out.block hg).1); clear hown hgr hat)
          refine ⟨⟨j + 1, by omega, ?_, HBn, HOn⟩, by simp [intOf]⟩
          rw [show (k : Int) - 1 - ((j + 1 : Nat) : Int) = (i : Int) - 1 by push_cast; omega]
        · obtain rfl : j = k := by omega
          have hl0 : ¬ (j : Int) - 1 - (j : Int) ≥ 0 := by omega
          obtain ⟨A9, c9, hv9, hce9⟩ := HOw.out.at HTOk.out
          injection hv9 with hv9 _ hv8
          subst hv9 hv8
          have HBwr : Hid (Below w.heap.size w wr) := st HBz.out HBr.out
          obtain ⟨t1, t2⟩ := turn_make nm lo hi n an ty m j c
          have HM4 := Lib.hid (s_MakeA wr A B XA n cap m bcap j xc nm lo hi an ty (c.turn j) (HD.out.below HBwr.out) (HA.out.below HBwr.out) hce9 (by omega) (by omega) (by omega) HTOk.out)
          rw [← HE.out] at t1 t2
          obtain ⟨F, hF⟩ : ∃ F, F = makE nm lo hi n an ty m j (c.turn j) (srtR n j (c.turn j)) := ⟨_, rfl⟩
          rw [← hF] at t1 HM4
          have HT1 := Lib.hid t1
          have HT2 := Lib.hid t2
          have HKy : Hid (∀ W, Below wz.heap.size wz W → Keep w4 w5.heap.size w5.heap.size (.cells #[.slice p2.A n p2.cap, .slice p2.B m p2.bcap, .slice p2.C j p2.ccap] 29 (0, 0)) w7.heap.size (.cells #[.slice p3.A D3.n p3.cap, .slice p3.B D3.m p3.bcap, .slice p3.C D3.N p3.ccap] 29 (0, 0)) w6.heap.size p3 D3 p2.C j c.ln c.vl W) := fun W hW => HKz.out.below hW
          clear t1 t2 hF hce9
          go_wp2_with fail
          refine HM4.out.mono ?_
          rintro e w11 ⟨hmk, hb11⟩
          obtain ⟨p5, D5, rfl, hu5, ho5⟩ := hmk.arr
          have HO5 := Lib.hid ho5
          have HU5 : Hid (ArAt (w11.alloc (p5.obj D5.n D5.m D5.N)) p5 D5) := hu5.at.below (bel_nw _ _)
          have K17 := Lib.hid (heap_alloc_new w11 (p5.obj D5.n D5.m D5.N))
          have hl17 : w11.heap.size < (w11.alloc (p5.obj D5.n D5.m D5.N)).heap.size := by simp
          have HB12 : Hid (Below wz.heap.size wz (w11.alloc (p5.obj D5.n D5.m D5.N))) := st (st HBr.out hb11) (bel_nw _ _)
          have HOk5 : Hid (F = 0 → ArOk ⟨n, nm, lo, hi, m, an, ty, j, (c.turn j).re (srtR n j (c.turn j))⟩) := fun _ => ok_re (D := ⟨n, nm, lo, hi, m, an, ty, j, c.turn j⟩) ⟨HAO.out.n1, HAO.out.m1, HAO.out.N1, HAO.out.nmS, HAO.out.anS, HTOk.out⟩ _ (fun i hi => numR_lt n _ j i hi)
          have HEq2 : Hid (eqAr D3 D5 = true) := HO3.out.eq HO5.out ⟨HT1.out.2, HT1.out.1⟩ (fun h => eq_turn ⟨n, nm, lo, hi, m, an, ty, j, c⟩ c _ _ (HT2.out h))
          clear hmk hu5 ho5 hb11 HM4
          have HX : Hid (∀ W, Below (w11.alloc (p5.obj D5.n D5.m D5.N)).heap.size (w11.alloc (p5.obj D5.n D5.m D5.N)) W → (W.cell? ⟨w7.heap.size, 0, none⟩ = some (.slice p3.A D3.n p3.cap) ∧ W.cell? ⟨w7.heap.size, 1, none⟩ = some (.slice p3.B D3.m p3.bcap) ∧ W.cell? ⟨w7.heap.size, 2, none⟩ = some (.slice p3.C D3.N p3.ccap)) ∧ (W.cell? ⟨w3.heap.size, 0, none⟩ = some (.slice p1.A D1.n p1.cap) ∧ W.cell? ⟨w3.heap.size, 1, none⟩ = some (.slice p1.B D1.m p1.bcap) ∧ W.cell? ⟨w3.heap.size, 2, none⟩ = some (.slice p1.C D1.N p1.ccap)) ∧ (W.cell? ⟨w11.heap.size, 0, none⟩ = some (.slice p5.A D5.n p5.cap) ∧ W.cell? ⟨w11.heap.size, 1, none⟩ = some (.slice p5.B D5.m p5.bcap) ∧ W.cell? ⟨w11.heap.size, 2, none⟩ = some (.slice p5.C D5.N p5.ccap))) := fun W hW => by
            have hk := HKy.out W (st HB12.out hW)
            exact ⟨(three_at hk.row2).1, HF1.out W hk.bel, (three_at ((hW.block _ hl17).trans K17.out)).1⟩
          have HC1 : Hid (∀ W, Below (w11.alloc (p5.obj D5.n D5.m D5.N)).heap.size (w11.alloc (p5.obj D5.n D5.m D5.N)) W → Calls Tryz.prog 11 #[p3.val D3.n D3.m D3.N, p1.val D1.n D1.m D1.N] W fun e w' => e = .returned (.bool true) ∧ Below W.heap.size W w') := fun W hW => by
            have hk := HKy.out W (st HB12.out hW)
            have h := ar_Equal W p3 p1 D3 D1 hk.up.at (HO3.out.ok HDS.out) (HU1.out.below hk.bel) (HO1.out.ok HDL.out)
            rwa [HEq1.out] at h
          have HC2 : Hid (∀ W, Below (w11.alloc (p5.obj D5.n D5.m D5.N)).heap.size (w11.alloc (p5.obj D5.n D5.m D5.N)) W → Calls Tryz.prog 11 #[p3.val D3.n D3.m D3.N, p5.val D5.n D5.m D5.N] W fun e w' => e = .returned (.bool true) ∧ Below W.heap.size W w') := fun W hW => by
            have hk := HKy.out W (st HB12.out hW)
            have h := ar_Equal W p3 p5 D3 D5 hk.up.at (HO3.out.ok HDS.out) (HU5.out.below hW) (HO5.out.ok HOk5.out)
            rwa [HEq2.out] at h
          have HBw12 : Hid (Below w.heap.size w (w11.alloc (p5.obj D5.n D5.m D5.N))) := st HBz.out HB12.out
          obtain ⟨⟨x0, x1, x2⟩, ⟨y0, y1, y2⟩, z0, z1, z2⟩ := HX.out _ (Below.refl _ _)
          clear hl0
          by_cases hE0 : E = 0
          · have hF0 : F = 0 := HT1.out.2 hE0
            subst hE0 hF0
            go_wp2_with (first
              | (go_at_call 11; refine (HC2.out w13 HB13.out).mono ?_; rintro e w14 ⟨rfl, hb14⟩; have HB14 := Lib.hid (st HBw12.out (st HB13.out hb14)); clear hb14)
              | (go_at_call 11; refine (HC1.out _ (Below.refl _ _)).mono ?_; rintro e w13 ⟨rfl, hb13⟩; have HB13 := Lib.hid hb13; clear hb13 x0 x1 x2 y0 y1 y2 z0 z1 z2; obtain ⟨⟨x0, x1, x2⟩, ⟨y0, y1, y2⟩, z0, z1, z2⟩ := HX.out w13 HB13.out))
            refine (HW.out _ HB14.out).mono ?_
            rintro e w15 ⟨rfl, hb15⟩
            go_wp2
            go_ret
            exact ⟨rfl, st HB14.out hb15⟩
          · have hF0 : ¬ F = 0 := fun h => hE0 (HT1.out.1 h)
            have hq1 : (F == 0) = false := beq_eq_false_iff_ne.2 hF0
            have hq2 : (E == 0) = false := beq_eq_false_iff_ne.2 hE0
            go_wp2_with (first
              | (go_at_call 11; refine (HC2.out w13 HB13.out).mono ?_; rintro e w14 ⟨rfl, hb14⟩; have HB14 := Lib.hid (st HBw12.out (st HB13.out hb14)); clear hb14)
              | (go_at_call 11; refine (HC1.out _ (Below.refl _ _)).mono ?_; rintro e w13 ⟨rfl, hb13⟩; have HB13 := Lib.hid hb13; clear hb13 x0 x1 x2 y0 y1 y2 z0 z1 z2; obtain ⟨⟨x0, x1, x2⟩, ⟨y0, y1, y2⟩, z0, z1, z2⟩ := HX.out w13 HB13.out))
            refine (HW.out _ HB14.out).mono ?_
            rintro e w15 ⟨rfl, hb15⟩
            go_wp2
            go_ret
            exact ⟨rfl, st HB14.out hb15⟩
end Go.Proofs.YtogmbehomilalaaGreatDoor
