/- The reference's error of a cell. -/
import Derived.Test.YtogmbehomilalaaGreatDoorZNat9
import Derived.Test.YtogmbehomilalaaGreatDoorZMathT
import Derived.Test.YtogmbehomilalaaGreatDoorZFitR9
import Derived.Test.YtogmbehomilalaaGreatDoorZRfS
import Derived.Test.YtogmbehomilalaaGreatDoorZArGa
import Derived.Test.YtogmbehomilalaaGreatDoorZLSa
import Derived.Test.YtogmbehomilalaaGreatDoorZRfC
import Derived.Lib.AppendZeros
import Derived.Test.YtogmbehomilalaaGreatDoorZCop
import Derived.Test.YtogmbehomilalaaGreatDoorZInvReg

/- The reference's error of a cell. -/
section
namespace Go.Proofs.YtogmbehomilalaaGreatDoor
open Go Go.RowKit Go.Deep

set_option maxRecDepth 100000 in
set_option maxHeartbeats 4000000 in
theorem r_Cell (w : World) (A B P Q : Option Addr) (n cap m bcap ln pc vl qc : Nat) (nm : Nat → ByteArray) (lo hi : Nat → Int) (an : Nat → ByteArray) (ty x vk vn vd : Nat → Int) (vs : Nat → ByteArray) (hd : DimsAt w A n nm lo hi) (ha : AttrsAt w B m an ty) (hx : IntsAt w P ln x) (hv : ValsAt w Q vl vk vn vd vs) (hn : n ≤ 1000) (hm : m ≤ 1000) (hl : ln ≤ 1000) (hs : ∀ j, j < vl → (vs j).size ≤ 9223372036854775807) :
    Calls Tryz.prog 30 #[.slice A n cap, .slice B m bcap, CelV P ln pc Q vl qc] w fun e w' => e = .returned (.int .i64 (cellE lo hi n ty m x ln vk vn vd vs vl)) ∧ Below w.heap.size w w' := by
  have KB := Lib.hid (cel_box w (.slice P ln pc) (.slice Q vl qc) 38)
  have HB : Hid (Below w.heap.size w (w.alloc (.cells #[.slice P ln pc, .slice Q vl qc] 38))) := (Below.refl _ _).alloc (Nat.le_refl _) _
  have HP : Hid (∀ W, Below w.heap.size w W → Calls Tryz.prog 72 #[.slice A n cap, .slice P ln pc] W fun e w' => e = .returned (.bool (ofB lo hi x n ln)) ∧ Below W.heap.size W w') := fun W hW => r_Of W A P n cap ln pc nm lo hi x (hd.below hW) (hx.below hW) hn hl
  have HF := Lib.hid r_Fits
  have HSz := Lib.hid hs
  have HA := Lib.hid ha
  have HV := Lib.hid hv
  obtain ⟨ve, hve⟩ : ∃ ve, cellE lo hi n ty m x ln vk vn vd vs vl = ve := ⟨_, rfl⟩
  rw [hve]
  have HE : Hid (ve = cellE lo hi n ty m x ln vk vn vd vs vl) := hve.symm
  clear hd ha hx hv hve hl hs
  by_cases h0 : ln = n
  · by_cases h1 : vl = m
    · subst h0 h1
      have HE1 : Hid (ve = if ofB lo hi x ln ln = false then 3 else if fitTo ty vk vn vd vs vl = true then 0 else 12) := by
        show _ = _
        rw [HE.out, cellE, if_neg (by simp)]
        have e1 : placeEr lo hi x ln ln = rangeE (inTo lo hi x ln) := if_neg (by simp)
        have e2 : ofB lo hi x ln ln = inTo lo hi x ln := by rw [ofB, beq_self_eq_true, Bool.true_and]
        rw [e1, e2]
        cases inTo lo hi x ln <;> rfl
      clear HE
      generalize ofB lo hi x ln ln = pe at *
      go_enter Tryz.func30, Tryz.ntmps30
      go_wp2_with fail
      generalize w.alloc (.cells #[.slice P ln pc, .slice Q vl qc] 38) = W0 at *
      obtain ⟨l0, l1⟩ := KB.out W0 (Below.refl _ _)
      go_wp2_with fail
      refine (HP.out _ HB.out).mono ?_
      rintro e w1 ⟨rfl, hb1⟩
      clear l0 l1
      obtain ⟨l0, l1⟩ := KB.out w1 hb1
      have HB1 : Hid (Below w.heap.size w w1) := st HB.out hb1
      clear HB
      cases pe
      · have HE2 : Hid (ve = 3) := HE1.out
        go_wp2
        go_ret
        exact ⟨by rw [HE2.out]; rfl, HB1.out⟩
      · have HE2 : Hid (ve = if fitTo ty vk vn vd vs vl = true then 0 else 12) := by show _ = _; rw [HE1.out, if_neg (by simp)]
        clear HE1
        go_wp2_with fail
        have KB1 : Hid (∀ W, Below w1.heap.size w1 W → W.cell? ⟨w.heap.size, 0, none⟩ = some (.slice P ln pc) ∧ W.cell? ⟨w.heap.size, 1, none⟩ = some (.slice Q vl qc)) := fun W hW => KB.out W (hb1.trans (hW.mono hb1.size))
        clear l0 l1
        go_loopw [7] (fun i wr => ∃ k : Nat, k ≤ vl ∧ i = .int .i64 k ∧ Hid (fitTo ty vk vn vd vs k = true) ∧ Hid (Below w1.heap.size w1 wr)) (fun i _ => vl - (intOf i).toNat)
        case atStart => exact ⟨0, Nat.zero_le _, rfl, rfl, Below.refl _ _⟩
        case round =>
          obtain ⟨k, hk, rfl, HK, HBr⟩ := hrel
          have HBw : Hid (Below w.heap.size w wr) := st HB1.out HBr.out
          by_cases hlt : k < vl
          · obtain ⟨bv, ov, rfl, hbv, hcv⟩ := (HV.out.below HBw.out) (by omega)
            obtain ⟨x0, x1, x2, x3⟩ := hcv k hlt
            obtain ⟨ba, oa, rfl, hba, hca⟩ := (HA.out.below HBw.out) (by omega)
            obtain ⟨y0, y1⟩ := hca k hlt
            clear hcv hca
            have HS : Hid (fitTo ty vk vn vd vs (k + 1) = (isTy (ty k) && (okB (vk k) (vn k) (vd k) (vs k) && fitB (vk k) (vd k) (ty k)))) := by show _ = _; rw [fitTo, HK.out, Bool.true_and]
            have HFk := Lib.hid (fun W => HF.out (vk k) (vn k) (vd k) (vs k) (ty k) W (HSz.out k hlt))
            generalize (isTy (ty k) && (okB (vk k) (vn k) (vd k) (vs k) && fitB (vk k) (vd k) (ty k))) = rs at *
            generalize vk k = k9 at *
            generalize vn k = n9 at *
            generalize vd k = d9 at *
            generalize vs k = s9 at *
            generalize ty k = t9 at *
            generalize an k = a9 at *
            have KV : Hid (∀ W, Below wr.heap.size wr W → (W.cell? ⟨bv, ov + k * 4, none⟩ = some (.int .i64 k9) ∧ W.cell? ⟨bv, ov + k * 4 + 1, none⟩ = some (.int .i64 n9) ∧ W.cell? ⟨bv, ov + k * 4 + 2, none⟩ = some (.int .i64 d9) ∧ W.cell? ⟨bv, ov + k * 4 + 3, none⟩ = some (.string s9)) ∧ W.cell? ⟨ba, oa + k * 2 + 1, none⟩ = some (.int .i64 t9) ∧ W.cell? ⟨w.heap.size, 1, none⟩ = some (.slice (some ⟨bv, ov, none⟩) vl qc)) := fun W hW =>
              ⟨⟨(hW.cell (p := ⟨bv, ov + k * 4, none⟩) hbv).trans x0, (hW.cell (p := ⟨bv, ov + k * 4 + 1, none⟩) hbv).trans x1, (hW.cell (p := ⟨bv, ov + k * 4 + 2, none⟩) hbv).trans x2, (hW.cell (p := ⟨bv, ov + k * 4 + 3, none⟩) hbv).trans x3⟩, (hW.cell (p := ⟨ba, oa + k * 2 + 1, none⟩) hba).trans y1, (KB1.out W (st HBr.out hW)).2⟩
            clear x0 x1 x2 x3 y0 y1
            have B0d : Below wr.heap.size wr wr.drew := Below.drew (Below.refl _ _)
            have hk4 : (k : Int) < (vl : Int) := by omega
            go_wp2_with fail
            cases rs
            · have HR : Hid (ve = 12) := by show _ = _; rw [HE2.out, if_neg (by rw [fitTo_le (k := k + 1) HS.out (by omega)]; simp)]
              go_region_held3 (fun W => (W.cell? ⟨bv, ov + k * 4, none⟩ = some (.int .i64 k9) ∧ W.cell? ⟨bv, ov + k * 4 + 1, none⟩ = some (.int .i64 n9) ∧ W.cell? ⟨bv, ov + k * 4 + 2, none⟩ = some (.int .i64 d9) ∧ W.cell? ⟨bv, ov + k * 4 + 3, none⟩ = some (.string s9)) ∧ W.cell? ⟨ba, oa + k * 2 + 1, none⟩ = some (.int .i64 t9) ∧ W.cell? ⟨w.heap.size, 1, none⟩ = some (.slice (some ⟨bv, ov, none⟩) vl qc))
                (first | exact KV.out _ B1 | exact KV.out _ B0d | exact KV.out _ (Below.refl _ _))
                (first
                  | (go_at_call 73; refine (HFk.out _).mono ?_; rintro e w2 ⟨rfl, hb2⟩; have B1 : Below wr.heap.size wr w2 := st B0d hb2))
              all_goals
                go_wp2
                go_ret
                exact ⟨by rw [HR.out]; rfl, st HBw.out B1⟩
            · go_region_held3 (fun W => (W.cell? ⟨bv, ov + k * 4, none⟩ = some (.int .i64 k9) ∧ W.cell? ⟨bv, ov + k * 4 + 1, none⟩ = some (.int .i64 n9) ∧ W.cell? ⟨bv, ov + k * 4 + 2, none⟩ = some (.int .i64 d9) ∧ W.cell? ⟨bv, ov + k * 4 + 3, none⟩ = some (.string s9)) ∧ W.cell? ⟨ba, oa + k * 2 + 1, none⟩ = some (.int .i64 t9) ∧ W.cell? ⟨w.heap.size, 1, none⟩ = some (.slice (some ⟨bv, ov, none⟩) vl qc))
                (first | exact KV.out _ B1 | exact KV.out _ B0d | exact KV.out _ (Below.refl _ _))
                (first
                  | (go_at_call 73; refine (HFk.out _).mono ?_; rintro e w2 ⟨rfl, hb2⟩; have B1 : Below wr.heap.size wr w2 := st B0d hb2))
              all_goals
                go_wp2
                go_roundw
                case rel => exact ⟨k + 1, by omega, by go_num, HS, st HBr.out B1⟩
                case measure => simp [intOf]; omega
          · obtain rfl : k = vl := by omega
            obtain ⟨l0, l1⟩ := KB1.out wr HBr.out
            go_wp2
            go_ret
            exact ⟨by rw [HE2.out, if_pos HK.out]; rfl, HBw.out⟩
    · have HR : Hid (ve = 13) := by show _ = _; rw [HE.out, cellE, if_pos (.inr h1)]
      have h2 : ((vl : Int) != (m : Int)) = true := by rw [bne_iff_ne]; omega
      subst h0
      clear HE
      go_enter Tryz.func30, Tryz.ntmps30
      go_wp2
      go_ret
      exact ⟨by rw [HR.out]; rfl, HB.out⟩
  · have HR : Hid (ve = 13) := by show _ = _; rw [HE.out, cellE, if_pos (.inl h0)]
    have h2 : ((ln : Int) != (n : Int)) = true := by rw [bne_iff_ne]; omega
    clear HE
    go_enter Tryz.func30, Tryz.ntmps30
    go_wp2
    go_ret
    exact ⟨by rw [HR.out]; rfl, HB.out⟩
end Go.Proofs.YtogmbehomilalaaGreatDoor
end

/- The reference's Make in error: too many cells, a schema that is none, a cell in error. -/
section
namespace Go.Proofs.YtogmbehomilalaaGreatDoor
open Go Go.RowKit Go.Deep

set_option maxRecDepth 100000 in
set_option maxHeartbeats 4000000 in
theorem r_Make_many (w : World) (A B C : Option Addr) (n cap m bcap N ccap : Nat) (nm : Nat → ByteArray) (lo hi : Nat → Int) (an : Nat → ByteArray) (ty : Nat → Int) (hd : DimsAt w A n nm lo hi) (ha : AttrsAt w B m an ty) (hs : ∀ k, k < n → (nm k).size ≤ 9223372036854775807) (hs2 : ∀ k, k < m → (an k).size ≤ 9223372036854775807) (hn : n ≤ 1000) (hm : m ≤ 1000) (he : manyE nm lo hi n an ty m N ≠ 0) :
    Calls Tryz.prog 8 #[.slice A n cap, .slice B m bcap, .slice C N ccap] w fun e w' => e = .returned (.tuple #[ArrV none 0 0 none 0 0 none 0 0, .int .i64 (manyE nm lo hi n an ty m N)]) ∧ Below w.heap.size w w' := by
  have HB : Hid (Below w.heap.size w (w.alloc (.cells #[.slice none 0 0, .slice none 0 0, .slice none 0 0] 29))) := (Below.refl _ _).alloc (Nat.le_refl _) _
  have HM := Lib.hid (r_Schema (w.alloc (.cells #[.slice none 0 0, .slice none 0 0, .slice none 0 0] 29)) A B n cap m bcap nm lo hi an ty (hd.below HB.out) (ha.below HB.out) hs hs2 hn hm)
  have hn0 := heap_alloc_new w (.cells #[.slice none 0 0, .slice none 0 0, .slice none 0 0] 29)
  have hl0 : w.heap.size < (w.alloc (.cells #[.slice none 0 0, .slice none 0 0, .slice none 0 0] 29)).heap.size := by simp
  clear hd ha hs hs2 hn hm
  have HE : Hid (manyE nm lo hi n an ty m N = if schE nm lo hi n an ty m ≠ 0 then schE nm lo hi n an ty m else if 4096 < N then 9 else 0) := rfl
  generalize manyE nm lo hi n an ty m N = F at *
  generalize schE nm lo hi n an ty m = E at *
  by_cases h0 : E = 0
  · have hF : F = 9 ∧ 4096 < N := by
      have h9 := HE.out
      rw [if_neg (fun h => h h0)] at h9
      by_cases h4 : 4096 < N
      · rw [if_pos h4] at h9
        exact ⟨h9, h4⟩
      · rw [if_neg h4] at h9
        exact absurd h9 he
    obtain ⟨rfl, hN⟩ := hF
    have h1 : (E != 0) = false := by rw [bne_eq_false_iff_eq]; exact h0
    have h2 : (N : Int) > 4096 := by omega
    clear he h0 HE hN
    go_enter Tryz.func8, Tryz.ntmps8
    go_wp2_with fail
    refine HM.out.mono ?_
    rintro e w1 ⟨rfl, hb1⟩
    have HB1 : Hid (Below w.heap.size w w1) := st HB.out hb1
    have hres := (hb1.block w.heap.size hl0).trans hn0
    obtain ⟨⟨r0, r1, r2⟩, f0, f1, f2⟩ := three_at hres
    clear hb1 hn0 hl0 HM HB
    go_wp2
    refine bodyPost_ret (v := .tuple #[ArrV none 0 0 none 0 0 none 0 0, .int .i64 9]) (res_cell_tmp Tryz.results8 _ _ w.heap.size 29 _ (0, 0) _ rfl (three_set hres _ _ _) Tryz.underlying29 rfl (by rw [info_arr]; rfl)) rfl ?_
    exact ⟨rfl, ((HB1.out.setCell (p := ⟨w.heap.size, 0, none⟩) (Nat.le_refl _) _).setCell (p := ⟨w.heap.size, 1, none⟩) (Nat.le_refl _) _).setCell (p := ⟨w.heap.size, 2, none⟩) (Nat.le_refl _) _⟩
  · have hF : F = E := by
      have h9 := HE.out
      rwa [if_pos h0] at h9
    subst hF
    have h1 : (F != 0) = true := by rw [bne_iff_ne]; exact h0
    clear he h0 HE
    go_enter Tryz.func8, Tryz.ntmps8
    go_wp2_with fail
    refine HM.out.mono ?_
    rintro e w1 ⟨rfl, hb1⟩
    have HB1 : Hid (Below w.heap.size w w1) := st HB.out hb1
    have hres := (hb1.block w.heap.size hl0).trans hn0
    obtain ⟨⟨r0, r1, r2⟩, f0, f1, f2⟩ := three_at hres
    clear hb1 hn0 hl0 HM HB
    go_wp2
    refine bodyPost_ret (v := .tuple #[ArrV none 0 0 none 0 0 none 0 0, .int .i64 F]) (res_cell_tmp Tryz.results8 _ _ w.heap.size 29 _ (0, 0) _ rfl (three_set hres _ _ _) Tryz.underlying29 rfl (by rw [info_arr]; rfl)) rfl ?_
    exact ⟨rfl, ((HB1.out.setCell (p := ⟨w.heap.size, 0, none⟩) (Nat.le_refl _) _).setCell (p := ⟨w.heap.size, 1, none⟩) (Nat.le_refl _) _).setCell (p := ⟨w.heap.size, 2, none⟩) (Nat.le_refl _) _⟩
end Go.Proofs.YtogmbehomilalaaGreatDoor
end

/- The reference's Make: a cell in error. -/
section
namespace Go.Proofs.YtogmbehomilalaaGreatDoor
open Go Go.RowKit Go.Deep

theorem many_sch {nm : Nat → ByteArray} {lo hi : Nat → Int} {n : Nat} {an : Nat → ByteArray} {ty : Nat → Int} {m N : Nat} (h : manyE nm lo hi n an ty m N = 0) : schE nm lo hi n an ty m = 0 ∧ N ≤ 4096 := by
  unfold manyE at h
  by_cases e : schE nm lo hi n an ty m = 0
  · refine ⟨e, ?_⟩
    rw [if_neg (fun h9 => h9 e)] at h
    by_cases e3 : 4096 < N
    · rw [if_pos e3] at h; cases h
    · omega
  · rw [if_pos e] at h
    exact absurd h e
set_option maxRecDepth 100000 in
set_option maxHeartbeats 8000000 in
/-- The first cell in error has number K. -/
theorem r_Make_cell (w : World) (A B C : Option Addr) (n cap m bcap N ccap K : Nat) (nm : Nat → ByteArray) (lo hi : Nat → Int) (an : Nat → ByteArray) (ty : Nat → Int) (c : CeD) (hd : DimsAt w A n nm lo hi) (ha : AttrsAt w B m an ty) (hc : CeAt w C N c) (hn : n ≤ 1000) (hm : m ≤ 1000) (hK : K < N) (ho : CeOk N c) (hs : ∀ k, k < n → (nm k).size ≤ 9223372036854775807) (hs2 : ∀ k, k < m → (an k).size ≤ 9223372036854775807)
    (he : manyE nm lo hi n an ty m N = 0) (hce : ∀ k, k < K → cellE lo hi n ty m (c.x k) (c.ln k) (c.vk k) (c.vn k) (c.vd k) (c.vs k) (c.vl k) = 0) (hE : cellE lo hi n ty m (c.x K) (c.ln K) (c.vk K) (c.vn K) (c.vd K) (c.vs K) (c.vl K) ≠ 0) :
    Calls Tryz.prog 8 #[.slice A n cap, .slice B m bcap, .slice C N ccap] w fun e w' => e = .returned (.tuple #[ArrV none 0 0 none 0 0 none 0 0, .int .i64 (cellE lo hi n ty m (c.x K) (c.ln K) (c.vk K) (c.vn K) (c.vd K) (c.vs K) (c.vl K))]) ∧ Below w.heap.size w w' := by
  have HB : Hid (Below w.heap.size w (w.alloc (.cells #[.slice none 0 0, .slice none 0 0, .slice none 0 0] 29))) := (Below.refl _ _).alloc (Nat.le_refl _) _
  have HM := Lib.hid (r_Schema (w.alloc (.cells #[.slice none 0 0, .slice none 0 0, .slice none 0 0] 29)) A B n cap m bcap nm lo hi an ty (hd.below HB.out) (ha.below HB.out) hs hs2 hn hm)
  obtain ⟨h40, h41⟩ := many_sch he
  rw [h40] at HM
  have h42 : ¬ (N : Int) > 4096 := by omega
  have HO := Lib.hid ho
  have hn0 := heap_alloc_new w (.cells #[.slice none 0 0, .slice none 0 0, .slice none 0 0] 29)
  have hl0 : w.heap.size < (w.alloc (.cells #[.slice none 0 0, .slice none 0 0, .slice none 0 0] 29)).heap.size := by simp
  have HD := Lib.hid hd
  have HA := Lib.hid ha
  have HC := Lib.hid hc
  have HCE : Hid (∃ E : Nat → Int, (∀ k, E k = cellE lo hi n ty m (c.x k) (c.ln k) (c.vk k) (c.vn k) (c.vd k) (c.vs k) (c.vl k)) ∧ (∀ k, k < K → E k = 0) ∧ E K ≠ 0) := ⟨_, fun _ => rfl, hce, hE⟩
  clear hd ha hc hce he hE ho hs hs2 h40
  obtain ⟨E, hE0, hE1, hE2⟩ := HCE.out
  rw [← hE0 K]
  have HE0 := Lib.hid hE0
  have HE1 := Lib.hid hE1
  have HE2 := Lib.hid hE2
  clear hE0 hE1 hE2 HCE
  go_enter Tryz.func8, Tryz.ntmps8
  go_wp2_with fail
  refine HM.out.mono ?_
  rintro e w1 ⟨rfl, hb1⟩
  have HB1 : Hid (Below w.heap.size w w1) := st HB.out hb1
  have hres := (hb1.block w.heap.size hl0).trans hn0
  have hl1 : w.heap.size < w1.heap.size := Nat.lt_of_lt_of_le hl0 hb1.size
  have HRS := Lib.hid hres
  clear hb1 hn0 hl0 HM HB hres
  obtain ⟨bc, oc, rfl, hbc, hcs⟩ := HC.out (by omega)
  have HBC := Lib.hid hbc
  have HCS := Lib.hid hcs
  clear hcs hbc HC
  go_wp2_with fail
  go_loopw [9] (fun i wr => ∃ k : Nat, k ≤ K ∧ i = .int .i64 k ∧ Hid (Below w1.heap.size w1 wr)) (fun i _ => N - (intOf i).toNat)
  case atStart => exact ⟨0, Nat.zero_le _, rfl, Below.refl _ _⟩
  case round =>
    obtain ⟨k, hk, rfl, HBr⟩ := hrel
    have hlt : k < N := by omega
    obtain ⟨P, pc, X, d, h1, h2, h3, h4, h5⟩ := HCS.out k hlt
    have HWr : Hid (Below w.heap.size w wr) := st HB1.out HBr.out
    have x0 := (HWr.out.cell (p := ⟨bc, oc + k * 2, none⟩) HBC.out).trans h1
    have x1 := (HWr.out.cell (p := ⟨bc, oc + k * 2 + 1, none⟩) HBC.out).trans h2
    have HCe : Hid (∀ W, Below wr.heap.size wr W → Calls Tryz.prog 30 #[.slice A n cap, .slice B m bcap, CelV P (c.ln k) pc X (c.vl k) d] W fun e w' => e = .returned (.int .i64 (E k)) ∧ Below W.heap.size W w') := fun W hW => by
      have hh := st HWr.out hW
      rw [HE0.out k]
      exact r_Cell W A B P X n cap m bcap (c.ln k) pc (c.vl k) d nm lo hi an ty (c.x k) (c.vk k) (c.vn k) (c.vd k) (c.vs k) (HD.out.below hh) (HA.out.below hh) (h3.below hh) (h4.below hh) (by omega) (by omega) (by omega) (HO.out k hlt).2.2
    have q0 : (0 : Int) ≤ (k : Int) := by omega
    have q1 : (k : Int) < (N : Int) := by omega
    clear h1 h2 h3 h4 h5
    generalize c.ln k = ln at *
    generalize c.vl k = vl at *
    by_cases hkK : k < K
    · rw [HE1.out k hkK] at HCe
      go_wp2_with (go_at_call 30; refine (HCe.out _ (Below.refl _ _)).mono ?_; rintro e w5 ⟨rfl, hb5⟩; have HB5 := Lib.hid hb5)
      go_roundw
      case rel => exact ⟨k + 1, by omega, by go_num, st HBr.out HB5.out⟩
      case measure => simp [intOf]; omega
    · obtain rfl : k = K := by omega
      have h1 : (E k != 0) = true := by rw [bne_iff_ne]; exact HE2.out
      go_wp2_with (go_at_call 30; refine (HCe.out _ (Below.refl _ _)).mono ?_; rintro e w5 ⟨rfl, hb5⟩; have HB5 := Lib.hid hb5; have HB6 := Lib.hid (st HWr.out HB5.out); have hres := ((HB5.out.block w.heap.size (Nat.lt_of_lt_of_le hl1 HBr.out.size)).trans ((HBr.out.block w.heap.size hl1).trans HRS.out)); obtain ⟨⟨r0, r1, r2⟩, f0, f1, f2⟩ := three_at hres)
      refine bodyPost_ret (v := .tuple #[ArrV none 0 0 none 0 0 none 0 0, .int .i64 (E k)]) (res_cell_tmp Tryz.results8 _ _ w.heap.size 29 _ (0, 0) _ rfl (three_set hres _ _ _) Tryz.underlying29 rfl (by rw [info_arr]; rfl)) rfl ?_
      exact ⟨rfl, ((HB6.out.setCell (p := ⟨w.heap.size, 0, none⟩) (Nat.le_refl _) _).setCell (p := ⟨w.heap.size, 1, none⟩) (Nat.le_refl _) _).setCell (p := ⟨w.heap.size, 2, none⟩) (Nat.le_refl _) _⟩
end Go.Proofs.YtogmbehomilalaaGreatDoor
end

/- Small facts of values and worlds. -/
section
namespace Go.Proofs.YtogmbehomilalaaGreatDoor
open Go Go.RowKit Go.Deep Go.Shelf

theorem info_val : (Tryz.prog.info? 40).map (fun i => (i.zero, i.size, i.bytes)) = some (some (.agg #[.int .i64 0, .int .i64 0, .int .i64 0, .string ⟨#[]⟩]), 4, 40) := by kernel_rfl
end Go.Proofs.YtogmbehomilalaaGreatDoor
end

/- The reference's copies. -/
section
namespace Go.Proofs.YtogmbehomilalaaGreatDoor
open Go Go.RowKit Go.Deep Go.Shelf

theorem info_cel' : (Tryz.prog.info? 38).map (·.size) = some 2 := by kernel_rfl
theorem run_app_new {P : Program} {w : World} (t ty e : TypeId) (i : TypeInfo) (z : Value) (size bytes : Nat) (ht : P.underlying t = some (.slice e)) (hi : P.info? e = some i) (hz : i.zero = some z)
    (hsize : i.size = size) (hby : i.bytes = bytes) (hzs : z.cells.size = size) (hsz : 0 < size) {b B : Nat} (hb : w.heap[b]? = some (.cells #[] e (0, 0))) (hB : B ≤ b)
    (A : Option Addr) (m c : Nat) (f : Nat → Nat → Value) (hrow : RowAt w A m size f) (h1 : ∀ k r, (f k r).oneCell' = true) (hm : m ≤ 1000000) (hb1 : bytes ≤ 1000) :
    ∃ P' c' w', (Builtin.append_ #[t, t] ty #[.slice (some ⟨b, 0, none⟩) 0 0, .slice A m c]).run P w = .ok (.slice P' m c') w' ∧ Up B P' ∧ RowAt w' P' m size f ∧ Below w.heap.size w w' := by
  have hlt : b < w.heap.size := (Array.getElem?_eq_some_iff.1 hb).1
  have hby2 : (0 + m) * bytes ≤ 140737488355328 := by
    have : m * bytes ≤ 1000000 * 1000 := Nat.mul_le_mul hm hb1
    rw [Nat.zero_add]
    omega
  have own : w.ownsRow B e size (.slice (some ⟨b, 0, none⟩) 0 0) 0 [] := ⟨by simp, .inr ⟨b, 0, #[], rfl, hB, hb, Nat.le_refl _, by unfold maxLen; omega, by simp, by simp⟩⟩
  have stay : Up B (some (⟨b, 0, none⟩ : Addr)) ∧ RowAt w (some ⟨b, 0, none⟩) 0 size f := ⟨fun a ha => by injection ha with ha; subst ha; exact ⟨hB, rfl, rfl⟩, fun h => absurd h (Nat.lt_irrefl 0)⟩
  cases A with
  | none =>
    have hm0 : m = 0 := by
      rcases Nat.eq_zero_or_pos m with h0 | h0
      · exact h0
      · obtain ⟨b', o, h1, _⟩ := hrow h0
        cases h1
    subst hm0
    exact ⟨_, _, _, run_app_none (P := P) (w := w) B t ty e i size ht hi _ 0 c [] own, stay.1, stay.2, Below.refl _ _⟩
  | some ad =>
    rcases Nat.eq_zero_or_pos m with rfl | hpos
    · have hr := run_append_room_cells (P := P) w t ty e i ht hi b 0 0 0 ad 0 c [] (by simp) (by intro j u h; simp at h) (by intro u h; cases h) (by omega) (by intro j h; exact absurd h (by simp)) (by intro j h; exact absurd h (by simp))
      exact ⟨_, _, _, hr, stay.1, stay.2, Below.refl _ _⟩
    · have hnews := hrow.news hsz
      obtain ⟨v', w', hr, h2, h3, h4⟩ := run_append_own (P := P) w B t ty e i z size bytes ht hi hz hsize hby hzs hsz _ 0 [] own ad m c (rowL f size m) (rowL_len _ _ _) hnews (rowL_one h1) (by unfold maxLen; omega) hby2 (by omega)
      subst hsize hby
      have hr2 := run_append_grow (P := P) w t ty e i z ht hi hz ⟨b, 0, none⟩ 0 0 [] (by simp) (by intro j u h; simp at h) ad m c (rowL f i.size m) (rowL_len _ _ _) hnews (by omega) (by omega) (growslice_fits (by omega) hby2)
      rw [hr] at hr2
      injection hr2 with e1 e2
      have hown2 : w'.ownsRow B e i.size v' m (rowL f i.size m) := by simpa using h2
      obtain ⟨P', c', rfl, u1, u2⟩ := RowAt.own hown2
      refine ⟨P', c', w', hr, u1, u2, ?_⟩
      rw [e2]
      exact (Below.drew (Below.refl _ _)).alloc (by simp) _
theorem wpList_app_new {P : Program} {w : World} {ops : Array Oper} {rest : List Oper} {o : Oper} {a : Act} {Q : Exit → Act → World → Prop} (hgd : o.guard = none) (s x : Operand) (t : TypeId)
    (ho : o.op = .call { callee := .builtin .append, args := #[s, x], argTypes := #[t, t] })
    (e : TypeId) (i : TypeInfo) (z : Value) (size bytes : Nat) (ht : P.underlying t = some (.slice e)) (hi : P.info? e = some i) (hz : i.zero = some z)
    (hsize : i.size = size) (hby : i.bytes = bytes) (hzs : z.cells.size = size) (hsz : 0 < size) (b B : Nat) (hb : w.heap[b]? = some (.cells #[] e (0, 0))) (hB : B ≤ b)
    (hs : a.eval s = .slice (some ⟨b, 0, none⟩) 0 0) (A : Option Addr) (m c : Nat) (f : Nat → Nat → Value) (hx : a.eval x = .slice A m c) (hrow : RowAt w A m size f) (h1 : ∀ k r, (f k r).oneCell' = true) (hm : m ≤ 1000000) (hb1 : bytes ≤ 1000)
    (h : ∀ P' c' w', Up B P' → RowAt w' P' m size f → Below w.heap.size w w' → wpList P ops Q rest (a.put o.dst (.slice P' m c')) w') : wpList P ops Q (o :: rest) a w := by
  obtain ⟨P', c', w', hr, u1, u2, u3⟩ := run_app_new (P := P) (w := w) t o.type e i z size bytes ht hi hz hsize hby hzs hsz hb hB A m c f hrow h1 hm hb1
  exact Lib.wpList_append_run w hgd s x t t ho _ _ hs hx _ w' hr (h P' c' w' u1 u2 u3)
section
variable {ops : Array Oper} {Q : Exit → Act → World → Prop} {K : Act → World → Prop} {a : Act} {w : World}
theorem op_apn {o : Oper} {d s x : Nat} {t e : TypeId} (ho : o.op = .call { callee := .builtin .append, args := #[.tmp s, .tmp x], argTypes := #[t, t] }) (hd : o.dst = some d)
    (i : TypeInfo) (z : Value) (size bytes : Nat) (ht : Tryz.prog.underlying t = some (.slice e)) (hi : Tryz.prog.info? e = some i) (hz : i.zero = some z)
    (hsize : i.size = size) (hby : i.bytes = bytes) (hzs : z.cells.size = size) (hsz : 0 < size) {b B : Nat} (hb : w.heap[b]? = some (.cells #[] e (0, 0))) (hB : B ≤ b)
    (hs : slot a s = .slice (some ⟨b, 0, none⟩) 0 0) {A : Option Addr} {m c : Nat} {f : Nat → Nat → Value} (hx : slot a x = .slice A m c) (hrow : RowAt w A m size f) (h1 : ∀ k r, (f k r).oneCell' = true) (hm : m ≤ 1000000) (hb1 : bytes ≤ 1000)
    (h : ∀ P' c' w', Up B P' → RowAt w' P' m size f → Below w.heap.size w w' → K (putSlot a d (.slice P' m c')) w') : o.wp Tryz.prog a w K Q := by
  obtain ⟨P', c', w', hr, u1, u2, u3⟩ := run_app_new (P := Tryz.prog) (w := w) t o.type e i z size bytes ht hi hz hsize hby hzs hsz hb hB A m c f hrow h1 hm hb1
  refine Lib.wp_append_run w (.tmp s) (.tmp x) t t ho _ _ (by rw [← hs]; simp [Act.eval, slot]) (by rw [← hx]; simp [Act.eval, slot]) _ w' hr ?_
  rw [hd]
  exact h P' c' w' u1 u2 u3
set_option maxRecDepth 100000 in
theorem op_bs0 {o : Oper} {d : Nat} {t e : TypeId} (ht : (t = 35 ∧ e = 3) ∨ (t = 36 ∧ e = 40) ∨ (t = 22 ∧ e = 57) ∨ (t = 23 ∧ e = 59)) (ho : o.op = .buildSlice t 0 #[]) (hd : o.dst = some d) (h : K (putSlot a d (.slice (some ⟨w.heap.size, 0, none⟩) 0 0)) (w.alloc (.cells #[] e))) : o.wp Tryz.prog a w K Q := by
  obtain ⟨op, dst, ty, pos, after, guard⟩ := o
  dsimp only at ho hd
  subst ho hd
  unfold Oper.wp
  rcases ht with ⟨rfl, rfl⟩ | ⟨rfl, rfl⟩ | ⟨rfl, rfl⟩ | ⟨rfl, rfl⟩ <;> (go_simp; exact h)
set_option maxRecDepth 100000 in
theorem op_fac {o : Oper} {d t b f : Nat} (hf : f < 2) (ho : o.op = .fieldAddr 38 (.tmp t) f) (hd : o.dst = some d) (hs : slot a t = .pointer (some ⟨b, 0, none⟩)) (h : K (putSlot a d (.pointer (some ⟨b, f, none⟩))) w) : o.wp Tryz.prog a w K Q := by
  obtain ⟨op, dst, ty, pos, after, guard⟩ := o
  dsimp only at ho hd
  subst ho hd
  have hs' : a.tmps[t]?.getD undef = .pointer (some ⟨b, 0, none⟩) := hs
  unfold Oper.wp
  rcases (by omega : f = 0 ∨ f = 1) with rfl | rfl <;> (go_simp; exact h)
theorem op_bdc {o : Oper} {d t1 t2 : Nat} {p q : Option Addr} {n c n' c' : Nat} (ho : o.op = .build 38 #[(0, .tmp t1), (1, .tmp t2)]) (hd : o.dst = some d) (h1 : slot a t1 = .slice p n c) (h2 : slot a t2 = .slice q n' c') (h : K (putSlot a d (.agg #[.slice p n c, .slice q n' c'])) w) : o.wp Tryz.prog a w K Q := by
  obtain ⟨op, dst, ty, pos, after, guard⟩ := o
  dsimp only at ho hd
  subst ho hd
  have h1' : a.tmps[t1]?.getD undef = .slice p n c := h1
  have h2' : a.tmps[t2]?.getD undef = .slice q n' c' := h2
  unfold Oper.wp
  go_simp
  exact h
theorem two_gen {W : World} {r : Nat} {x y : Value} {ty : TypeId} (h : W.heap[r]? = some (.cells #[x, y] ty (0, 0))) : W.cell? ⟨r, 0, none⟩ = some x ∧ W.cell? ⟨r, 1, none⟩ = some y ∧ W.frozen? ⟨r, 0, none⟩ = false ∧ W.frozen? ⟨r, 1, none⟩ = false := by
  refine ⟨by simp [World.cell?, h], by simp [World.cell?, h], by simp [World.frozen?, h], by simp [World.frozen?, h]⟩
theorem two_sets {W : World} {r : Nat} {x y : Value} {ty : TypeId} (h : W.heap[r]? = some (.cells #[x, y] ty (0, 0))) (u v : Value) : ((W.setCell ⟨r, 0, none⟩ u).setCell ⟨r, 1, none⟩ v).heap[r]? = some (.cells #[u, v] ty (0, 0)) := by
  simp [World.setCell, Array.getElem?_modify, h]
theorem op_stc {o : Oper} {t s b : Nat} {p q : Option Addr} {n c n' c' : Nat} {x' y' : Value} (ho : o.op = .store 38 (.tmp t) (.tmp s)) (hd : o.dst = none) (hs : slot a t = .pointer (some ⟨b, 0, none⟩)) (hv : slot a s = .agg #[.slice p n c, .slice q n' c'])
    (hb : w.heap[b]? = some (.cells #[x', y'] 38 (0, 0))) (h : K a ((w.setCell ⟨b, 0, none⟩ (.slice p n c)).setCell ⟨b, 1, none⟩ (.slice q n' c'))) : o.wp Tryz.prog a w K Q := by
  obtain ⟨op, dst, ty, pos, after, guard⟩ := o
  dsimp only at ho hd
  subst ho hd
  have hs' : a.tmps[t]?.getD undef = .pointer (some ⟨b, 0, none⟩) := hs
  have hv' : a.tmps[s]?.getD undef = .agg #[.slice p n c, .slice q n' c'] := hv
  obtain ⟨r0, r1, f0, f1⟩ := two_gen hb
  unfold Oper.wp
  go_simp
  exact h
end
theorem ints_mono' {l : Nat} {x : Nat → Int} {B : Nat} : Mono (fun v W => ∃ P' c', v = .slice P' l c' ∧ IntsAt W P' l x ∧ Up B P') := by
  rintro v x y ⟨P, c, h1, h2, h3⟩ hb; exact ⟨P, c, h1, h2.below hb, h3⟩
theorem vals_mono' {l : Nat} {vk vn vd : Nat → Int} {vs : Nat → ByteArray} {B : Nat} : Mono (fun v W => ∃ P' c', v = .slice P' l c' ∧ ValsAt W P' l vk vn vd vs ∧ Up B P') := by
  rintro v x y ⟨P, c, h1, h2, h3⟩ hb; exact ⟨P, c, h1, h2.below hb, h3⟩
/-- An empty literal, in a block from B on. -/
def NewR (B : Nat) (e : TypeId) : Value → World → Prop := fun v W => ∃ b, v = .slice (some ⟨b, 0, none⟩) 0 0 ∧ B ≤ b ∧ W.heap[b]? = some (.cells #[] e (0, 0))
theorem newR_mono {B : Nat} {e : TypeId} : Mono (NewR B e) := by
  rintro v x y ⟨b, h1, h2, h3⟩ hb; exact ⟨b, h1, h2, (hb.block b (Array.getElem?_eq_some_iff.1 h3).1).trans h3⟩
set_option maxRecDepth 100000 in
set_option maxHeartbeats 4000000 in
theorem r_CopyCell (w : World) (P Q : Option Addr) (l pc v qc : Nat) (x vk vn vd : Nat → Int) (vs : Nat → ByteArray) (hp : IntsAt w P l x) (hq : ValsAt w Q v vk vn vd vs) (hl : l ≤ 1000000) (hv : v ≤ 1000000) :
    Calls Tryz.prog 34 #[.agg #[.slice P l pc, .slice Q v qc]] w fun e w' => ∃ P' c' Q' d', e = .returned (.agg #[.slice P' l c', .slice Q' v d']) ∧ IntsAt w' P' l x ∧ ValsAt w' Q' v vk vn vd vs ∧ Up w.heap.size P' ∧ Up w.heap.size Q' ∧ Below w.heap.size w w' := by
  have HP := Lib.hid hp.row
  have HQ := Lib.hid hq.row
  have HB : Hid (Below w.heap.size w (w.alloc (.cells #[.slice P l pc, .slice Q v qc] 38))) := (Below.refl _ _).alloc (Nat.le_refl _) _
  have KC := Lib.hid (cel_box w (.slice P l pc) (.slice Q v qc) 38)
  obtain ⟨i0, hI0, hiz0, hiz1, hiz2⟩ := info_parts info_int
  obtain ⟨i9, hI9, hzz0, hz1, hz2⟩ := info_parts info_val
  clear hp hq
  go_enter Tryz.func34, Tryz.ntmps34
  go_wp2_with fail
  rename_i K hK
  have hz0 : ((w.alloc (.cells #[.slice P l pc, .slice Q v qc] 38)).alloc (.cells #[.slice none 0 0, .slice none 0 0] 38)).heap.size = w.heap.size + 2 := by simp
  have HB0 : Hid (Below (w.alloc (.cells #[.slice P l pc, .slice Q v qc] 38)).heap.size (w.alloc (.cells #[.slice P l pc, .slice Q v qc] 38)) ((w.alloc (.cells #[.slice P l pc, .slice Q v qc] 38)).alloc (.cells #[.slice none 0 0, .slice none 0 0] 38))) := bel_nw _ _
  have HRes : Hid (((w.alloc (.cells #[.slice P l pc, .slice Q v qc] 38)).alloc (.cells #[.slice none 0 0, .slice none 0 0] 38)).heap[w.heap.size + 1]? = some (.cells #[.slice none 0 0, .slice none 0 0] 38 (0, 0))) := by
    have := heap_alloc_new (w.alloc (.cells #[.slice P l pc, .slice Q v qc] 38)) (.cells #[.slice none 0 0, .slice none 0 0] 38)
    rw [World.size_alloc] at this
    exact this
  generalize w.alloc (.cells #[.slice P l pc, .slice Q v qc] 38) = Wa at *
  generalize Wa.alloc (.cells #[.slice none 0 0, .slice none 0 0] 38) = W0 at *
  refine wp_region_TL (n1 := 9) (T := TL [NewR (w.heap.size + 2) 3, isW (.pointer (some ⟨w.heap.size, 0, none⟩)), isW (.slice P l pc), fun v' W => ∃ P' c', v' = .slice P' l c' ∧ IntsAt W P' l x ∧ Up (w.heap.size + 2) P', NewR (w.heap.size + 2) 40, isW (.pointer (some ⟨w.heap.size, 1, none⟩)), isW (.slice Q v qc), fun v' W => ∃ P' c', v' = .slice P' v c' ∧ ValsAt W P' v vk vn vd vs ∧ Up (w.heap.size + 2) P',
    fun u W => ∃ P' c' Q' d', u = .agg #[.slice P' l c', .slice Q' v d'] ∧ (IntsAt W P' l x ∧ Up (w.heap.size + 2) P') ∧ ValsAt W Q' v vk vn vd vs ∧ Up (w.heap.size + 2) Q']) (by kernel_rfl) rfl rfl rfl (by kernel_rfl) ?step ?tail
  case step =>
    intro listed a W i H hi9 hilt
    have dl := H.dl (l := [some 3, some 4, some 5, some 6, some 7, some 8, some 9, some 10, some 11, none]) rfl
    have ap := apart_of dl (by decide)
    have HBW : Hid (Below Wa.heap.size Wa W) := st HB0.out H.below
    have hBW1 : w.heap.size + 2 ≤ W.heap.size := by rw [← hz0]; exact H.below.size
    obtain ⟨m0, m1⟩ := KC.out W HBW.out
    have mono : ∀ p ∈ [NewR (w.heap.size + 2) 3, isW (.pointer (some ⟨w.heap.size, 0, none⟩)), isW (.slice P l pc), fun v' W => ∃ P' c', v' = .slice P' l c' ∧ IntsAt W P' l x ∧ Up (w.heap.size + 2) P', NewR (w.heap.size + 2) 40, isW (.pointer (some ⟨w.heap.size, 1, none⟩)), isW (.slice Q v qc), fun v' W => ∃ P' c', v' = .slice P' v c' ∧ ValsAt W P' v vk vn vd vs ∧ Up (w.heap.size + 2) P',
      fun u W => ∃ P' c' Q' d', u = .agg #[.slice P' l c', .slice Q' v d'] ∧ (IntsAt W P' l x ∧ Up (w.heap.size + 2) P') ∧ ValsAt W Q' v vk vn vd vs ∧ Up (w.heap.size + 2) Q'], Mono p := by
      intro p hp
      simp only [List.mem_cons, List.not_mem_nil, or_false] at hp
      rcases hp with rfl | rfl | rfl | rfl | rfl | rfl | rfl | rfl | rfl
      · exact newR_mono
      · exact isW_mono _
      · exact isW_mono _
      · exact ints_mono'
      · exact newR_mono
      · exact isW_mono _
      · exact isW_mono _
      · exact vals_mono'
      · rintro v' x y ⟨P', c', Q', d', h1, h2, h3, h4⟩ hb; exact ⟨P', c', Q', d', h1, ⟨h2.1.below hb, h2.2⟩, h3.below hb, h4⟩
    rcases (by omega : i = 0 ∨ i = 1 ∨ i = 2 ∨ i = 3 ∨ i = 4 ∨ i = 5 ∨ i = 6 ∨ i = 7 ∨ i = 8) with rfl | rfl | rfl | rfl | rfl | rfl | rfl | rfl | rfl
    · exact wpOp_of rfl (.inl rfl) (op_bs0 (.inl ⟨rfl, rfl⟩) rfl rfl (H.over mono ap rfl rfl (by simp) (bel_nw W _) ⟨_, rfl, hBW1, heap_alloc_new W _⟩))
    · exact wpOp_of rfl (.inl rfl) (op_fac (by decide) rfl rfl (H.old 1 (old_of' dl 1 (by decide))) (H.over mono ap rfl rfl (by simp) (Below.refl _ _) rfl))
    · exact wpOp_of rfl (.inl rfl) (op_lsl (.inl rfl) rfl rfl (H.got' hi9 (j := 1) (t := 4) rfl (by kernel_rfl) rfl rfl) m0 (H.over mono ap rfl rfl (by simp) (Below.refl _ _) rfl))
    · obtain ⟨b, e1, e2, e3⟩ := H.got' hi9 (j := 0) (t := 3) rfl (by kernel_rfl) rfl rfl
      refine wpOp_of rfl (.inl rfl) (op_apn rfl rfl i0 (.int .i64 0) 1 8 Tryz.underlying35 hI0 hiz0 hiz1 hiz2 rfl (by decide) e3 e2 e1 (H.got' hi9 (j := 2) (t := 5) rfl (by kernel_rfl) rfl rfl) (HP.out.below (st HB.out HBW.out)) (intF_one x) hl (by decide) ?_)
      intro P' c' w' u1 u2 u3
      exact H.over mono ap rfl rfl (by simp) u3 ⟨P', c', rfl, u2.ints, u1⟩
    · exact wpOp_of rfl (.inl rfl) (op_bs0 (.inr (.inl ⟨rfl, rfl⟩)) rfl rfl (H.over mono ap rfl rfl (by simp) (bel_nw W _) ⟨_, rfl, hBW1, heap_alloc_new W _⟩))
    · exact wpOp_of rfl (.inl rfl) (op_fac (by decide) rfl rfl (H.old 1 (old_of' dl 1 (by decide))) (H.over mono ap rfl rfl (by simp) (Below.refl _ _) rfl))
    · exact wpOp_of rfl (.inl rfl) (op_lsl (.inr (.inl rfl)) rfl rfl (H.got' hi9 (j := 5) (t := 8) rfl (by kernel_rfl) rfl rfl) m1 (H.over mono ap rfl rfl (by simp) (Below.refl _ _) rfl))
    · obtain ⟨b, e1, e2, e3⟩ := H.got' hi9 (j := 4) (t := 7) rfl (by kernel_rfl) rfl rfl
      refine wpOp_of rfl (.inl rfl) (op_apn rfl rfl i9 _ 4 40 Tryz.underlying36 hI9 hzz0 hz1 hz2 rfl (by decide) e3 e2 e1 (H.got' hi9 (j := 6) (t := 9) rfl (by kernel_rfl) rfl rfl) (HQ.out.below (st HB.out HBW.out)) (valF4_one _ _ _ _) hv (by decide) ?_)
      intro P' c' w' u1 u2 u3
      exact H.over mono ap rfl rfl (by simp) u3 ⟨P', c', rfl, u2.vals, u1⟩
    · obtain ⟨P', c', e1, d1, d2⟩ := H.got' hi9 (j := 3) (t := 6) rfl (by kernel_rfl) rfl rfl
      obtain ⟨Q', d', e2, d3, d4⟩ := H.got' hi9 (j := 7) (t := 10) rfl (by kernel_rfl) rfl rfl
      exact wpOp_of rfl (.inl rfl) (op_bdc rfl rfl e1 e2 (H.over mono ap rfl rfl (by simp) (Below.refl _ _) ⟨P', c', Q', d', rfl, ⟨d1, d2⟩, d3, d4⟩))
  case tail =>
    intro listed a W H hall
    obtain ⟨P', c', Q', d', e1, ⟨d1, d2⟩, d3, d4⟩ := H.got 8 _ 11 rfl rfl (hall 8 (by decide))
    have dl := H.dl (l := [some 3, some 4, some 5, some 6, some 7, some 8, some 9, some 10, some 11, none]) rfl
    have s2 := H.old 2 (old_of' dl 2 (by decide))
    have hres := (H.below.block _ (by rw [hz0]; omega)).trans HRes.out
    refine op_stc rfl rfl s2 e1 hres ?_
    have hdf : a.defers = [] := H.defers.trans rfl
    have HBW : Below Wa.heap.size Wa W := st HB0.out H.below
    refine hK _ _ ?_
    go_wp2
    refine bodyPost_ret (v := .agg #[.slice P' l c', .slice Q' v d']) (res_cell Tryz.results34 _ _ (w.heap.size + 1) 38 _ (0, 0) _ (by rw [Array.getD_eq_getD_getElem?]; exact s2) (two_sets hres _ _) Tryz.underlying38 rfl (by rw [info_cel']; rfl)) hdf ?_
    have gr : W.grownBy ((W.setCell ⟨w.heap.size + 1, 0, none⟩ (.slice P' l c')).setCell ⟨w.heap.size + 1, 1, none⟩ (.slice Q' v d')) (some (w.heap.size + 1)) := gr2 (grown_set _ _ _ _) (grown_set _ _ _ _)
    refine ⟨P', c', Q', ⟨d', rfl⟩, (d1.row.grown gr (d2.ne (by omega))).ints, (d3.row.grown gr (d4.ne (by omega))).vals, d2.mono (by omega), d4.mono (by omega), ?_⟩
    exact ((st HB.out HBW).setCell (p := ⟨w.heap.size + 1, 0, none⟩) (by show w.heap.size ≤ w.heap.size + 1; omega) _).setCell (p := ⟨w.heap.size + 1, 1, none⟩) (by show w.heap.size ≤ w.heap.size + 1; omega) _
theorem info_dim' : (Tryz.prog.info? 57).map (fun i => (i.zero, i.size, i.bytes)) = some (some (.agg #[.string ⟨#[]⟩, .int .i64 0, .int .i64 0]), 3, 32) := by kernel_rfl
theorem info_att' : (Tryz.prog.info? 59).map (fun i => (i.zero, i.size, i.bytes)) = some (some (.agg #[.string ⟨#[]⟩, .int .i64 0]), 2, 24) := by kernel_rfl
set_option maxRecDepth 100000 in
set_option maxHeartbeats 4000000 in
theorem r_Empty (w : World) (A B : Option Addr) (n cap m bcap : Nat) (nm : Nat → ByteArray) (lo hi : Nat → Int) (an : Nat → ByteArray) (ty : Nat → Int) (hd : DimsAt w A n nm lo hi) (ha : AttrsAt w B m an ty) (hn : n ≤ 1000000) (hm : m ≤ 1000000) :
    Calls Tryz.prog 33 #[.slice A n cap, .slice B m bcap] w fun e w' => ∃ P c' Q d', e = .returned (ArrV P n c' Q m d' none 0 0) ∧ DimsAt w' P n nm lo hi ∧ AttrsAt w' Q m an ty ∧ Up w.heap.size P ∧ Up w.heap.size Q ∧ Below w.heap.size w w' := by
  have HP := Lib.hid hd.row
  have HQ := Lib.hid ha.row
  obtain ⟨i0, hI0, hiz0, hiz1, hiz2⟩ := info_parts info_dim'
  obtain ⟨i9, hI9, hzz0, hzz1, hzz2⟩ := info_parts info_att'
  clear hd ha
  go_enter Tryz.func33, Tryz.ntmps33
  have HB : Hid (Below w.heap.size w ((w.alloc (.cells #[.slice none 0 0, .slice none 0 0, .slice none 0 0] 29)).alloc (.cells #[] 57))) := ((Below.refl _ _).alloc (Nat.le_refl _) _).alloc (by simp) _
  go_wp2_with (at_builtin; refine wpList_app_new rfl _ _ 22 rfl 57 i0 _ 3 32 Tryz.underlying22 hI0 hiz0 hiz1 hiz2 rfl (by decide) (w.heap.size + 1) (w.heap.size + 1) ?qa (Nat.le_refl _) rfl A n cap (dimF nm lo hi) rfl (HP.out.below HB.out) (dimF_one _ _ _) hn (by decide) ?_)
  case qa => simpa using heap_alloc_new (w.alloc (.cells #[.slice none 0 0, .slice none 0 0, .slice none 0 0] 29)) (.cells #[] 57)
  intro P1 c1 w1 u1 u2 u3
  have hz : ((w.alloc (.cells #[.slice none 0 0, .slice none 0 0, .slice none 0 0] 29)).alloc (.cells #[] 57)).heap.size = w.heap.size + 1 + 1 := by simp
  have hres : ((w.alloc (.cells #[.slice none 0 0, .slice none 0 0, .slice none 0 0] 29)).alloc (.cells #[] 57)).heap[w.heap.size]? = some (.cells #[.slice none 0 0, .slice none 0 0, .slice none 0 0] 29 (0, 0)) := ((bel_nw _ _).block _ (by simp)).trans (heap_alloc_new _ _)
  rw [← hz] at u3
  have HB1 : Hid (Below w.heap.size w w1) := st HB.out u3
  have hz1 : w.heap.size + 2 ≤ w1.heap.size := by have := u3.size; omega
  have HRes1 : Hid (w1.heap[w.heap.size]? = some (.cells #[.slice none 0 0, .slice none 0 0, .slice none 0 0] 29 (0, 0))) := (u3.block _ (by omega)).trans hres
  have HU1 := Lib.hid (And.intro u1 u2)
  generalize ((w.alloc (.cells #[.slice none 0 0, .slice none 0 0, .slice none 0 0] 29)).alloc (.cells #[] 57)) = W0 at *
  clear hres HB hz u1 u2 u3
  have HB2 : Hid (Below w1.heap.size w1 (w1.alloc (.cells #[] 59))) := bel_nw _ _
  have hz2 : (w1.alloc (.cells #[] 59)).heap.size = w1.heap.size + 1 := by simp
  go_wp2_with (at_builtin; refine wpList_app_new rfl _ _ 23 rfl 59 i9 _ 2 24 Tryz.underlying23 hI9 hzz0 hzz1 hzz2 rfl (by decide) w1.heap.size (w.heap.size + 1) ?qa (by omega) rfl B m bcap (attF an ty) rfl (HQ.out.below (st HB1.out HB2.out)) (attF_one _ _) hm (by decide) ?_)
  case qa => exact heap_alloc_new _ _
  intro P2 c2 w2 u4 u5 u6
  rw [← hz2] at u6
  have HB3 : Hid (Below w1.heap.size w1 w2) := st HB2.out u6
  have hres := (HB3.out.block _ (by omega)).trans HRes1.out
  obtain ⟨⟨y0, y1, y2⟩, z0, z1, z2⟩ := three_at hres
  go_wp2
  refine bodyPost_ret (v := ArrV P1 n c1 P2 m c2 none 0 0) (res_cell Tryz.results33 _ _ (w.heap.size) 29 _ (0, 0) _ rfl (three_set hres _ _ _) Tryz.underlying29 rfl (by rw [info_arr]; rfl)) rfl ?_
  have gr : w2.grownBy (((w2.setCell ⟨w.heap.size, 0, none⟩ (.slice P1 n c1)).setCell ⟨w.heap.size, 1, none⟩ (.slice P2 m c2)).setCell ⟨w.heap.size, 2, none⟩ (.slice none 0 0)) (some w.heap.size) := gr2 (gr2 (grown_set _ _ _ _) (grown_set _ _ _ _)) (grown_set _ _ _ _)
  refine ⟨P1, c1, P2, c2, rfl, ((HU1.out.2.below HB3.out).grown gr (HU1.out.1.ne (by omega))).dims, (u5.grown gr (u4.ne (by omega))).attrs, HU1.out.1.mono (by omega), u4.mono (by omega), ?_⟩
  exact (((st HB1.out HB3.out).setCell (p := ⟨w.heap.size, 0, none⟩) (Nat.le_refl _) _).setCell (p := ⟨w.heap.size, 1, none⟩) (Nat.le_refl _) _).setCell (p := ⟨w.heap.size, 2, none⟩) (Nat.le_refl _) _
end Go.Proofs.YtogmbehomilalaaGreatDoor
end

/- An abstract frame as a list of its slots. -/
section
namespace Go.Proofs.YtogmbehomilalaaGreatDoor
open Go Go.RowKit Go.Deep

theorem actlitf (n : Nat) (a : Act) (h : a.tmps.size = n) (hd : a.defers = []) : ∃ f : Nat → Value, (∀ t, a.tmps[t]?.getD undef = f t) ∧ a = ⟨((List.range n).map f).toArray, []⟩ := by
  refine ⟨fun t => a.tmps[t]?.getD undef, fun t => rfl, ?_⟩
  obtain ⟨tm, df⟩ := a
  have h' : tm.size = n := h
  have hd' : df = [] := hd
  subst hd'
  have e : tm = ((List.range n).map fun t => tm[t]?.getD undef).toArray := by
    apply Array.ext
    · simpa using h'
    · intro i h1 h2
      simp [h1]
  exact congrArg (fun x => (⟨x, []⟩ : Act)) e
end Go.Proofs.YtogmbehomilalaaGreatDoor
end
