/- What the laws examine: the sizes of arrays. -/
import Derived.Test.YtoippldgoehpcaaGreatDoorZM9
import Derived.Test.YtoippldgoehpcaaGreatDoorZLSa
import Derived.Test.YtoippldgoehpcaaGreatDoorZWka

/- What the laws examine: the sizes of arrays. -/
section
namespace Go.Proofs.YtoippldgoehpcaaGreatDoor
open Go Go.RowKit Go.Deep

/-- Few cells, with few coordinates and values. -/
def CelsB (N : Nat) (most : Int) (ln vl : Nat → Nat) : Prop := (N : Int) ≤ most ∧ ∀ k, k < N → ln k ≤ 10 ∧ vl k ≤ 10
set_option maxRecDepth 100000 in
set_option maxHeartbeats 4000000 in
theorem l_cells (w : World) (C : Option Addr) (N ccap : Nat) (most : Int) (ln vl : Nat → Nat) (x vk vn vd : Nat → Nat → Int) (vs : Nat → Nat → ByteArray) (hc : CelsAt w C N ln vl x vk vn vd vs) (hm : most ≤ 1000000)
    (hs : ∀ k, k < N → ln k ≤ 9223372036854775807 ∧ vl k ≤ 9223372036854775807 ∧ ∀ j, j < vl k → (vs k j).size ≤ 9223372036854775807) :
    Calls Tryz.prog 20 #[.slice C N ccap, .int .i64 most] w fun e w' => (e = .returned (.bool false) ∨ e = .returned (.bool true) ∧ CelsB N most ln vl) ∧ Below w.heap.size w w' := by
  have HC := Lib.hid hc
  have HS := Lib.hid hs
  have HL := Lib.hid l_short
  clear hc hs
  go_enter Tryz.func20, Tryz.ntmps20
  by_cases h0 : (N : Int) > most
  · go_wp2
    go_ret
    exact ⟨Or.inl rfl, Below.refl _ _⟩
  · go_wp2
    go_loopw [5, 6] (fun i _ wr => ∃ k : Nat, k ≤ N ∧ i = .int .i64 k ∧ Hid (∀ j, j < k → ln j ≤ 10 ∧ vl j ≤ 10) ∧ Hid (Below w.heap.size w wr)) (fun i _ _ => N - (intOf i).toNat)
    case atStart => exact ⟨0, Nat.zero_le _, rfl, fun j hj => absurd hj (by omega), Below.refl _ _⟩
    case round =>
      obtain ⟨k, hk, rfl, HK, HB⟩ := hrel
      by_cases hlt : k < N
      · obtain ⟨bc, oc, rfl, hbc, hcc⟩ := (HC.out.below HB.out) (by omega)
        obtain ⟨P, pc, Q, qc, x0, x1, _, x3⟩ := hcc k hlt
        clear hcc
        have HSk := Lib.hid (HS.out k hlt)
        have HV := Lib.hid x3
        clear x3
        obtain ⟨L, hL⟩ : ∃ L, ln k = L := ⟨_, rfl⟩
        obtain ⟨V, hV⟩ : ∃ V, vl k = V := ⟨_, rfl⟩
        have HLV : Hid (ln k = L ∧ vl k = V) := ⟨hL, hV⟩
        rw [hL] at x0 HSk
        rw [hV] at x1 HV HSk
        have hL9 := HSk.out.1
        have hV9 := HSk.out.2.1
        clear hL hV
        have HCW : Hid (∀ W, Below wr.heap.size wr W → W.cell? ⟨bc, oc + k * 2, none⟩ = some (.slice P L pc) ∧ W.cell? ⟨bc, oc + k * 2 + 1, none⟩ = some (.slice Q V qc)) := fun W hW => ⟨(hW.cell (p := ⟨bc, oc + k * 2, none⟩) hbc).trans x0, (hW.cell (p := ⟨bc, oc + k * 2 + 1, none⟩) hbc).trans x1⟩
        by_cases g1 : (L : Int) > 10
        · go_wp2
          go_ret
          exact ⟨Or.inl rfl, HB.out⟩
        · by_cases g2 : (V : Int) > 10
          · go_wp2
            go_ret
            exact ⟨Or.inl rfl, HB.out⟩
          · go_wp2
            clear x0 x1
            obtain ⟨wo, rfl⟩ : ∃ wo, wo = wr := ⟨_, rfl⟩
            go_loopw [6] (fun i wr => ∃ j : Nat, j ≤ V ∧ i = .int .i64 j ∧ Hid (Below wo.heap.size wo wr)) (fun i _ => V - (intOf i).toNat)
            case atStart => exact ⟨0, Nat.zero_le _, rfl, Below.refl _ _⟩
            case round =>
              obtain ⟨j, hj, rfl, HBj⟩ := hrel
              obtain ⟨x0, x1⟩ := HCW.out _ HBj.out
              by_cases hlt2 : j < V
              · obtain ⟨bv, ov, rfl, hbv, hcv⟩ := (HV.out.below HBj.out) (by omega)
                obtain ⟨y0, y1, y2, y3⟩ := hcv j hlt2
                clear hcv
                have HLs := Lib.hid (fun W => HL.out (vs k j) (HSk.out.2.2 j hlt2) W)
                generalize vs k j = s at *
                have KV : Hid (∀ W, Below wr.heap.size wr W → W.cell? ⟨bv, ov + j * 4 + 3, none⟩ = some (.string s) ∧ W.cell? ⟨bc, oc + k * 2 + 1, none⟩ = some (.slice (some ⟨bv, ov, none⟩) V qc)) := fun W hW => ⟨(hW.cell (p := ⟨bv, ov + j * 4 + 3, none⟩) hbv).trans y3, (HCW.out W (st HBj.out hW)).2⟩
                clear y0 y1 y2
                by_cases h5 : s.size ≤ 40
                · rw [decide_eq_true h5] at HLs
                  clear h5
                  go_wp2_with fail
                  refine (HLs.out _).mono ?_
                  rintro e w1 ⟨rfl, rfl⟩
                  go_wp2
                  go_roundw
                  case rel => exact ⟨j + 1, by omega, by go_num, HBj.out⟩
                  case measure => simp [intOf]; omega
                · rw [decide_eq_false h5] at HLs
                  clear h5
                  go_wp2_with fail
                  refine (HLs.out _).mono ?_
                  rintro e w1 ⟨rfl, rfl⟩
                  go_wp2
                  go_ret
                  exact ⟨Or.inl rfl, st HB.out HBj.out⟩
              · obtain rfl : j = V := by omega
                go_wp2
                go_roundw
                case rel =>
                  refine ⟨k + 1, by omega, by go_num, fun i hi => ?_, st HB.out HBj.out⟩
                  by_cases e : i = k
                  · subst e
                    rw [HLV.out.1, HLV.out.2]
                    omega
                  · exact HK.out i (by omega)
                case measure => simp [intOf]; omega
      · obtain rfl : k = N := by omega
        go_wp2
        go_ret
        exact ⟨Or.inr ⟨rfl, by omega, HK.out⟩, HB.out⟩

/-- Few: not more than what is examined. -/
def FewB (n m N : Nat) (most : Int) (ln vl : Nat → Nat) : Prop := n ≤ 10 ∧ m ≤ 10 ∧ CelsB N most ln vl
set_option maxRecDepth 100000 in
set_option maxHeartbeats 4000000 in
theorem l_Few3 (w : World) (A B C : Option Addr) (n cap m bcap N ccap : Nat) (most : Int) (nm : Nat → ByteArray) (lo hi : Nat → Int) (an : Nat → ByteArray) (ty : Nat → Int) (ln vl : Nat → Nat) (x vk vn vd : Nat → Nat → Int) (vs : Nat → Nat → ByteArray)
    (h : ArrF w A n B m C N nm lo hi an ty ln vl x vk vn vd vs) (hm : most ≤ 1000000) :
    Calls Tryz.prog 15 #[ArrV A n cap B m bcap C N ccap, .int .i64 most] w fun e w' => (e = .returned (.bool false) ∨ e = .returned (.bool true) ∧ FewB n m N most ln vl) ∧ Below w.heap.size w w' := by
  have KB := Lib.hid (arr_box w (.slice A n cap) (.slice B m bcap) (.slice C N ccap) 26)
  have HB : Hid (Below w.heap.size w (w.alloc (.cells #[.slice A n cap, .slice B m bcap, .slice C N ccap] 26))) := (Below.refl _ _).alloc (Nat.le_refl _) _
  have HS : Hid (∀ W, Below w.heap.size w W → Calls Tryz.prog 19 #[.slice A n cap, .slice B m bcap] W fun e w' => (e = .returned (.bool false) ∨ e = .returned (.bool true) ∧ n ≤ 10 ∧ m ≤ 10) ∧ Below W.heap.size W w') := fun W hW => l_schema3 W A B n cap m bcap nm lo hi an ty (h.dims.below hW) (h.attrs.below hW) h.nmS h.anS
  have HC : Hid (∀ W, Below w.heap.size w W → Calls Tryz.prog 20 #[.slice C N ccap, .int .i64 most] W fun e w' => (e = .returned (.bool false) ∨ e = .returned (.bool true) ∧ CelsB N most ln vl) ∧ Below W.heap.size W w') := fun W hW => l_cells W C N ccap most ln vl x vk vn vd vs (h.cells.below hW) hm h.cS
  clear h
  go_enter Tryz.func15, Tryz.ntmps15
  go_wp2_with fail
  generalize w.alloc (.cells #[.slice A n cap, .slice B m bcap, .slice C N ccap] 26) = W0 at *
  obtain ⟨l0, l1, l2⟩ := KB.out W0 (Below.refl _ _)
  go_wp2_with fail
  refine (HS.out _ HB.out).mono ?_
  rintro e w1 ⟨he, hb1⟩
  obtain ⟨l0', l1', l2'⟩ := KB.out w1 hb1
  clear l0 l1 l2
  have HB1 : Hid (Below w.heap.size w w1) := st HB.out hb1
  rcases he with rfl | ⟨rfl, hn, hm2⟩
  · go_wp2
    go_ret
    exact ⟨Or.inl rfl, HB1.out⟩
  · go_wp2_with fail
    refine (HC.out _ HB1.out).mono ?_
    rintro e w2 ⟨he, hb2⟩
    have HB2 : Hid (Below w.heap.size w w2) := st HB1.out hb2
    rcases he with rfl | ⟨rfl, hc⟩
    · go_wp2
      go_ret
      exact ⟨Or.inl rfl, HB2.out⟩
    · go_wp2
      go_ret
      exact ⟨Or.inr ⟨rfl, hn, hm2, hc⟩, HB2.out⟩
theorem l_Few (w : World) (A B C : Option Addr) (n cap m bcap N ccap : Nat) (most : Int) (nm : Nat → ByteArray) (lo hi : Nat → Int) (an : Nat → ByteArray) (ty : Nat → Int) (ln vl : Nat → Nat) (x vk vn vd : Nat → Nat → Int) (vs : Nat → Nat → ByteArray)
    (h : ArrF w A n B m C N nm lo hi an ty ln vl x vk vn vd vs) (hm : most ≤ 1000000) :
    Calls Tryz.prog 15 #[ArrV A n cap B m bcap C N ccap, .int .i64 most] w fun e w' => ∃ b : Bool, e = .returned (.bool b) ∧ (b = true → FewB n m N most ln vl) ∧ Below w.heap.size w w' :=
  (l_Few3 w A B C n cap m bcap N ccap most nm lo hi an ty ln vl x vk vn vd vs h hm).mono fun e w' ⟨h, hb⟩ => by
    rcases h with h | ⟨h, h1⟩
    · exact ⟨false, h, (fun h => by cases h), hb⟩
    · exact ⟨true, h, (fun _ => h1), hb⟩
end Go.Proofs.YtoippldgoehpcaaGreatDoor
end

/- The walk of SpaceCheck. -/
section
namespace Go.Proofs.YtoippldgoehpcaaGreatDoor
open Go Go.RowKit Go.Deep

/-- Few arrays have few cells: what the contracts ask of them. -/
theorem ArrF.few {w : World} {A : Option Addr} {n : Nat} {B : Option Addr} {m : Nat} {C : Option Addr} {N : Nat} {nm : Nat → ByteArray} {lo hi : Nat → Int} {an : Nat → ByteArray} {ty : Nat → Int} {ln vl : Nat → Nat} {x vk vn vd : Nat → Nat → Int} {vs : Nat → Nat → ByteArray} {most : Int}
    (h : ArrF w A n B m C N nm lo hi an ty ln vl x vk vn vd vs) (hf : FewB n m N most ln vl) : CellsAt w C N ln vl x vk vn vd vs :=
  h.cells.few fun k hk => by have := (hf.2.2.2 k hk).1; omega
theorem both_check (w : World) (A B C : Option Addr) (n cap m bcap N ccap : Nat) (nm : Nat → ByteArray) (lo hi : Nat → Int) (an : Nat → ByteArray) (ty : Nat → Int) (ln vl : Nat → Nat) (x vk vn vd : Nat → Nat → Int) (vs : Nat → Nat → ByteArray) (most : Int) (hm : most ≤ 1000000)
    (h : ArrF w A n B m C N nm lo hi an ty ln vl x vk vn vd vs) (hf : FewB n m N most ln vl) :
    (∀ W, Below w.heap.size w W → Calls Tryz.prog 17 #[ArrV A n cap B m bcap C N ccap] W fun e w' => e = .returned (.int .i64 (checkE nm lo hi n an ty m N ln vl x vk vn vd vs)) ∧ Below W.heap.size W w') ∧
    (∀ W, Below w.heap.size w W → Calls Tryz.prog 18 #[ArrV A n cap B m bcap C N ccap] W fun e w' => e = .returned (.int .i64 (checkE nm lo hi n an ty m N ln vl x vk vn vd vs)) ∧ Below W.heap.size W w') := by
  have h1 := hf.1
  have h2 := hf.2.1
  have h3 := hf.2.2.1
  exact ⟨fun W hW => s_Check W A B C n cap m bcap N ccap nm lo hi an ty ln vl x vk vn vd vs (h.dims.below hW) (h.attrs.below hW) ((h.few hf).below hW) (by omega) (by omega) (by omega),
    fun W hW => ra_Check W A B C n cap m bcap N ccap nm lo hi an ty ln vl x vk vn vd vs (h.dims.below hW) (h.attrs.below hW) ((h.few hf).below hW) (by omega) (by omega) (by omega) h.nmS h.anS fun k hk => (h.cS k hk).2.2⟩

set_option maxRecDepth 100000 in
set_option maxHeartbeats 4000000 in
theorem l_check (w : World) (A B C : Option Addr) (n cap m bcap N ccap : Nat) (nm : Nat → ByteArray) (lo hi : Nat → Int) (an : Nat → ByteArray) (ty : Nat → Int) (ln vl : Nat → Nat) (x vk vn vd : Nat → Nat → Int) (vs : Nat → Nat → ByteArray)
    (h : ArrF w A n B m C N nm lo hi an ty ln vl x vk vn vd vs) (hw : WorksAt w) :
    Calls Tryz.prog 3 #[ArrV A n cap B m bcap C N ccap] w fun e w' => e = .returned (.bool true) ∧ Below w.heap.size w w' := by
  have HW := Lib.hid hw
  have KB := Lib.hid (arr_box w (.slice A n cap) (.slice B m bcap) (.slice C N ccap) 26)
  have HB0 : Hid (Below w.heap.size w (w.alloc (.cells #[.slice A n cap, .slice B m bcap, .slice C N ccap] 26))) := (Below.refl _ _).alloc (Nat.le_refl _) _
  have HF := Lib.hid (l_Few _ A B C n cap m bcap N ccap 60 nm lo hi an ty ln vl x vk vn vd vs (h.below HB0.out) (by decide))
  have HB : Hid (FewB n m N 60 ln vl → _) := fun hf => both_check w A B C n cap m bcap N ccap nm lo hi an ty ln vl x vk vn vd vs 60 (by decide) h hf
  clear hw h
  generalize checkE nm lo hi n an ty m N ln vl x vk vn vd vs = ce at *
  go_enter Tryz.func3, Tryz.ntmps3
  obtain ⟨l0, l1, l2⟩ := KB.out _ (Below.refl _ _)
  go_wp2_with fail
  generalize w.alloc (.cells #[.slice A n cap, .slice B m bcap, .slice C N ccap] 26) = W0 at *
  refine HF.out.mono ?_
  rintro e w1 ⟨b, rfl, hb, hb1⟩
  have HB1 : Hid (Below w.heap.size w w1) := st HB0.out hb1
  have HB01 := Lib.hid hb1
  have HC := Lib.hid hb
  clear HF hb hb1 l0 l1 l2
  cases b
  · clear HC
    go_wp2_with fail
    refine (HW.out _ HB1.out).mono ?_
    rintro e w2 ⟨rfl, hb2⟩
    go_wp2
    go_ret
    exact ⟨rfl, st HB1.out hb2⟩
  · obtain ⟨hc1, hc2⟩ := HB.out (HC.out rfl)
    have HC1 := Lib.hid hc1
    have HC2 := Lib.hid hc2
    clear HB HC hc1 hc2
    obtain ⟨l0, l1, l2⟩ := KB.out w1 HB01.out
    go_wp2_with fail
    have B0d : Below w1.heap.size w1 w1.drew := Below.drew (Below.refl _ _)
    have hcc : (ce == ce) = true := by simp
    have KS : Hid (∀ W, Below w1.heap.size w1 W → W.cell? ⟨w.heap.size, 0, none⟩ = some (.slice A n cap) ∧ W.cell? ⟨w.heap.size, 1, none⟩ = some (.slice B m bcap) ∧ W.cell? ⟨w.heap.size, 2, none⟩ = some (.slice C N ccap)) := fun W hW => KB.out W (HB01.out.trans (hW.mono HB01.out.size))
    go_region_held3 (fun W => W.cell? ⟨w.heap.size, 0, none⟩ = some (.slice A n cap) ∧ W.cell? ⟨w.heap.size, 1, none⟩ = some (.slice B m bcap) ∧ W.cell? ⟨w.heap.size, 2, none⟩ = some (.slice C N ccap))
      (first | exact KS.out _ B4 | exact KS.out _ B3 | exact KS.out _ B2 | exact KS.out _ B0d | exact KS.out _ (Below.refl _ _))
      (first
        | (go_at_call 17; refine (HC1.out _ (st HB1.out B0d)).mono ?_; rintro e2 w2 ⟨rfl, hb2⟩; have B2 : Below w1.heap.size w1 w2 := st B0d hb2)
        | (go_at_call 18; refine (HC2.out _ (st HB1.out B2)).mono ?_; rintro e3 w3 ⟨rfl, hb3⟩; have B3 : Below w1.heap.size w1 w3 := st B2 hb3)
        | (go_at_call 16; refine (HW.out _ (st HB1.out B3)).mono ?_; rintro e4 w4 ⟨rfl, hb4⟩; have B4 : Below w1.heap.size w1 w4 := st B3 hb4))
    all_goals
      go_wp2
      go_ret
      exact ⟨rfl, st HB1.out B4⟩
end Go.Proofs.YtoippldgoehpcaaGreatDoor
end
