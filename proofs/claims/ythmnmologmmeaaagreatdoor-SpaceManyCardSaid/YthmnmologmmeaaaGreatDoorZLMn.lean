/- The walk of SpaceMany. -/
import Derived.Test.YthmnmologmmeaaaGreatDoorZAppC
import Derived.Test.YthmnmologmmeaaaGreatDoorZOpB
import Derived.Test.YthmnmologmmeaaaGreatDoorZWka
namespace Go.Proofs.YthmnmologmmeaaaGreatDoor
open Go Go.RowKit Go.Deep

/-- No coordinates or values of the law's own lie in block b or before. -/
def Off (b : Nat) (P : Option Addr) : Prop := ∀ a, P = some a → b < a.block

set_option maxRecDepth 100000 in
set_option maxHeartbeats 8000000 in
theorem l_many (w : World) (more : Int) (hm : 0 ≤ more ∧ more ≤ 255) (hw : WorksAt w) :
    Calls Tryz.prog 4 #[.int .u8 more] w fun e w' => e = .returned (.bool true) ∧ Below w.heap.size w w' := by
  have HW := Lib.hid hw
  obtain ⟨N, hN⟩ : ∃ N : Nat, 4090 + more % 12 = (N : Int) := ⟨(4090 + more % 12).toNat, by omega⟩
  have hN1 : 4090 ≤ N ∧ N ≤ 4101 := by omega
  have h1 : IntKind.u8.wrap (more.tmod 12) = more % 12 := by
    rw [Int.tmod_eq_emod_of_nonneg hm.1, IntKind.wrap_u8]
    omega
  clear hw
  have e0 := heap_alloc_new w (.cells #[.string ⟨#[120]⟩, .int .i64 0, .int .i64 1073741825] 43)
  have e1 := heap_alloc_new (w.alloc (.cells #[.string ⟨#[120]⟩, .int .i64 0, .int .i64 1073741825] 43)) (.cells #[.string ⟨#[118]⟩, .int .i64 1] 45)
  have e2 := heap_alloc_new ((w.alloc (.cells #[.string ⟨#[120]⟩, .int .i64 0, .int .i64 1073741825] 43)).alloc (.cells #[.string ⟨#[118]⟩, .int .i64 1] 45)) (.cells #[.slice (some ⟨w.heap.size, 0, none⟩) 1 1, .slice (some ⟨w.heap.size + 1, 0, none⟩) 1 1, .slice none 0 0] 29)
  have HB0 : Hid (Below w.heap.size w (((w.alloc (.cells #[.string ⟨#[120]⟩, .int .i64 0, .int .i64 1073741825] 43)).alloc (.cells #[.string ⟨#[118]⟩, .int .i64 1] 45)).alloc (.cells #[.slice (some ⟨w.heap.size, 0, none⟩) 1 1, .slice (some ⟨w.heap.size + 1, 0, none⟩) 1 1, .slice none 0 0] 29))) := (((Below.refl _ _).alloc (Nat.le_refl _) _).alloc (by simp) _).alloc (by simp; omega) _
  rw [World.size_alloc] at e1
  rw [World.size_alloc, World.size_alloc] at e2
  have HE2 := Lib.hid e2
  have HE1 := Lib.hid ((Below.heap_alloc _ (.cells #[.slice (some ⟨w.heap.size, 0, none⟩) 1 1, .slice (some ⟨w.heap.size + 1, 0, none⟩) 1 1, .slice none 0 0] 29) (w.heap.size + 1) (by simp)).trans e1)
  have HE0 := Lib.hid (((Below.heap_alloc _ (.cells #[.slice (some ⟨w.heap.size, 0, none⟩) 1 1, .slice (some ⟨w.heap.size + 1, 0, none⟩) 1 1, .slice none 0 0] 29) w.heap.size (by simp; omega)).trans (Below.heap_alloc _ (.cells #[.string ⟨#[118]⟩, .int .i64 1] 45) w.heap.size (by simp))).trans e0)
  clear e0 e1 e2
  go_enter Tryz.func4, Tryz.ntmps4
  go_wp2_with fail
  have HS : Hid (∃ z, z = w.heap.size + 1 + 1) := ⟨_, rfl⟩
  obtain ⟨xb, hxb⟩ := HS
  rw [← hxb]
  have HXB : Hid (xb = w.heap.size + 1 + 1) := hxb
  clear hxb
  go_loopw [5] (fun i wr => ∃ k : Nat, k ≤ N ∧ i = .int .i64 k ∧ Hid (Below w.heap.size w wr) ∧ Hid (xb < wr.heap.size) ∧ Hid (wr.heap[w.heap.size]? = some (.cells #[.string ⟨#[120]⟩, .int .i64 0, .int .i64 1073741825] 43 (0, 0))) ∧ Hid (wr.heap[w.heap.size + 1]? = some (.cells #[.string ⟨#[118]⟩, .int .i64 1] 45 (0, 0))) ∧ ∃ v, Hid (OwnC (Off xb) wr (xb + 1) v k mC) ∧ Hid (wr.heap[xb]? = some (.cells #[.slice (some ⟨w.heap.size, 0, none⟩) 1 1, .slice (some ⟨w.heap.size + 1, 0, none⟩) 1 1, v] 29 (0, 0)))) (fun i _ => N - (intOf i).toNat)
  case atStart =>
    rw [← HXB.out] at HE2
    exact ⟨0, Nat.zero_le _, rfl, HB0, by show _ < _; rw [HXB.out]; simp, HE0, HE1, _, OwnC.nil _ _ _ _, HE2⟩
  case round =>
    obtain ⟨k, hk, rfl, HBr, HSz, HR0, HR1, v, HOw, HX⟩ := hrel
    by_cases hlt : k < N
    · obtain ⟨⟨x0, x1, x2⟩, f0, f1, f2⟩ := three_at HX.out
      obtain ⟨XA, xc, hv, -⟩ := HOw.out.row
      subst hv
      have hq : (((wr.alloc (.cells #[.int .i64 k] 3)).alloc (.cells #[.int .i64 1, .int .i64 0, .int .i64 0, .string ⟨#[]⟩] 40)).alloc (.cells #[.slice (some ⟨wr.heap.size, 0, none⟩) 1 1, .slice (some ⟨wr.heap.size + 1, 0, none⟩) 1 1] 38)).heap[wr.heap.size + 1 + 1]? = some (.cells #[.slice (some ⟨wr.heap.size, 0, none⟩) (mC.ln k) 1, .slice (some ⟨wr.heap.size + 1, 0, none⟩) (mC.vl k) 1] 38 (0, 0)) ∧
          IntsAt (((wr.alloc (.cells #[.int .i64 k] 3)).alloc (.cells #[.int .i64 1, .int .i64 0, .int .i64 0, .string ⟨#[]⟩] 40)).alloc (.cells #[.slice (some ⟨wr.heap.size, 0, none⟩) 1 1, .slice (some ⟨wr.heap.size + 1, 0, none⟩) 1 1] 38)) (some ⟨wr.heap.size, 0, none⟩) (mC.ln k) (mC.x k) ∧
          ValsAt (((wr.alloc (.cells #[.int .i64 k] 3)).alloc (.cells #[.int .i64 1, .int .i64 0, .int .i64 0, .string ⟨#[]⟩] 40)).alloc (.cells #[.slice (some ⟨wr.heap.size, 0, none⟩) 1 1, .slice (some ⟨wr.heap.size + 1, 0, none⟩) 1 1] 38)) (some ⟨wr.heap.size + 1, 0, none⟩) (mC.vl k) (mC.vk k) (mC.vn k) (mC.vd k) (mC.vs k) := by
        have e0 := heap_alloc_new wr (.cells #[.int .i64 k] 3)
        have e1 := heap_alloc_new (wr.alloc (.cells #[.int .i64 k] 3)) (.cells #[.int .i64 1, .int .i64 0, .int .i64 0, .string ⟨#[]⟩] 40)
        have e2 := heap_alloc_new ((wr.alloc (.cells #[.int .i64 k] 3)).alloc (.cells #[.int .i64 1, .int .i64 0, .int .i64 0, .string ⟨#[]⟩] 40)) (.cells #[.slice (some ⟨wr.heap.size, 0, none⟩) 1 1, .slice (some ⟨wr.heap.size + 1, 0, none⟩) 1 1] 38)
        rw [World.size_alloc] at e1
        rw [World.size_alloc, World.size_alloc] at e2
        have e3 := (Below.heap_alloc _ (.cells #[.slice (some ⟨wr.heap.size, 0, none⟩) 1 1, .slice (some ⟨wr.heap.size + 1, 0, none⟩) 1 1] 38) (wr.heap.size + 1) (by simp)).trans e1
        have e4 := ((Below.heap_alloc _ (.cells #[.slice (some ⟨wr.heap.size, 0, none⟩) 1 1, .slice (some ⟨wr.heap.size + 1, 0, none⟩) 1 1] 38) wr.heap.size (by simp; omega)).trans (Below.heap_alloc _ (.cells #[.int .i64 1, .int .i64 0, .int .i64 0, .string ⟨#[]⟩] 40) wr.heap.size (by simp))).trans e0
        refine ⟨e2, fun _ => ⟨wr.heap.size, 0, rfl, by simp; omega, fun j hj => ?_⟩, fun _ => ⟨wr.heap.size + 1, 0, rfl, by simp, fun j hj => ?_⟩⟩
        · obtain rfl : j = 0 := by have : j < 1 := hj; omega
          rw [cell_of_row _ _ _ _ _ _ e4]; rfl
        · obtain rfl : j = 0 := by have : j < 1 := hj; omega
          refine ⟨?_, ?_, ?_, ?_⟩ <;> (rw [cell_of_row _ _ _ _ _ _ e3]; rfl)
      have HQ := Lib.hid hq
      clear hq
      have HA3 : Hid (Below wr.heap.size wr (((wr.alloc (.cells #[.int .i64 k] 3)).alloc (.cells #[.int .i64 1, .int .i64 0, .int .i64 0, .string ⟨#[]⟩] 40)).alloc (.cells #[.slice (some ⟨wr.heap.size, 0, none⟩) 1 1, .slice (some ⟨wr.heap.size + 1, 0, none⟩) 1 1] 38))) := (((Below.refl _ _).alloc (Nat.le_refl _) _).alloc (by simp) _).alloc (by simp; omega) _
      have hsz := HSz.out
      go_wp2_with (at_builtin; refine wpList_appC rfl _ _ rfl _ (Off xb) (xb + 1) (.slice XA k xc) k mC rfl (wr.heap.size + 1 + 1) rfl (some ⟨wr.heap.size, 0, none⟩) (some ⟨wr.heap.size + 1, 0, none⟩) 1 1 HQ.out.1 HQ.out.2.1 HQ.out.2.2 ⟨fun a ha => by injection ha with ha; subst ha; exact hsz, fun a ha => by injection ha with ha; subst ha; show xb < wr.heap.size + 1; omega⟩ ⟨fun _ a ha e => by injection ha with ha; subst ha; have := (HOw.out.block e).2; exact Nat.lt_irrefl _ this, fun _ a ha e => by injection ha with ha; subst ha; have h9 : wr.heap.size + 1 < wr.heap.size := (HOw.out.block e).2; omega⟩ (HOw.out.below HA3.out) (by omega) (by simp; omega) ?_; intro v4 w4 hown hgr hat; obtain ⟨A4, c4, hv4, -⟩ := hown.row; subst hv4; have hz3 : wr.heap.size ≤ (((wr.alloc (.cells #[.int .i64 k] 3)).alloc (.cells #[.int .i64 1, .int .i64 0, .int .i64 0, .string ⟨#[]⟩] 40)).alloc (.cells #[.slice (some ⟨wr.heap.size, 0, none⟩) 1 1, .slice (some ⟨wr.heap.size + 1, 0, none⟩) 1 1] 38)).heap.size := HA3.out.size; have kp := (fun (j : Nat) (hj : j ≤ xb) => (hgr.block j (by omega) (fun e => by have := (HOw.out.block e.symm).1; omega)).trans (HA3.out.block j (by omega))); have y := (kp xb (Nat.le_refl _)).trans HX.out; obtain ⟨⟨y0, y1, y2⟩, z0, z1, z2⟩ := three_at y; have gr : w4.grownBy (w4.setCell ⟨xb, 2, none⟩ (.slice A4 (k + 1) c4)) (some xb) := grown_set _ _ _ _; have HR5 : Hid ((w4.setCell ⟨xb, 2, none⟩ (.slice A4 (k + 1) c4)).heap[xb]? = some (.cells #[.slice (some ⟨w.heap.size, 0, none⟩) 1 1, .slice (some ⟨w.heap.size + 1, 0, none⟩) 1 1, .slice A4 (k + 1) c4] 29 (0, 0))) := (by show _ = _; simp [World.setCell, Array.getElem?_modify, y]); have HO5 := Lib.hid (hown.set gr (Nat.lt_succ_self _) (fun A hA a ha => by have := hA a ha; omega)); have hz4 : xb < w4.heap.size := Nat.lt_of_lt_of_le (by omega) hgr.size; have HXW : Hid (w.heap.size + 1 < xb) := (by show _ < _; rw [HXB.out]; omega); have hxw := HXW.out; have HR05 := Lib.hid ((gr.block w.heap.size (by omega) (fun e => by injection e with e; omega)).trans ((kp w.heap.size (by omega)).trans HR0.out)); have HR15 := Lib.hid ((gr.block (w.heap.size + 1) (by omega) (fun e => by injection e with e; omega)).trans ((kp (w.heap.size + 1) (by omega)).trans HR1.out)); have HS5 : Hid (xb < (w4.setCell ⟨xb, 2, none⟩ (.slice A4 (k + 1) c4)).heap.size) := (Nat.lt_of_lt_of_le hz4 gr.size); have HB5 : Hid (Below w.heap.size w (w4.setCell ⟨xb, 2, none⟩ (.slice A4 (k + 1) c4))) := (((st HBr.out HA3.out).grown hgr (by omega) (fun g hg => by have := (HOw.out.block hg).1; omega)).grown gr (by omega) (fun g hg => by injection hg with hg; omega)); clear hgr gr hown kp hat hxw y)
      go_roundw
      case rel => exact ⟨k + 1, by omega, by go_num, HB5, HS5, HR05, HR15, _, HO5, HR5⟩
      case measure => simp [intOf]; omega
    · obtain rfl : k = N := by omega
      obtain ⟨wo, rfl⟩ : ∃ wo, wo = wr := ⟨_, rfl⟩
      obtain ⟨XA, xc, hv, hce⟩ := HOw.out.at (m_ok k (by omega)).cS
      subst hv
      have HCE := Lib.hid hce
      have HDI : Hid (DimsAt wo (some ⟨w.heap.size, 0, none⟩) 1 (fun _ => ⟨#[120]⟩) (fun _ => 0) (fun _ => 1073741825)) := fun _ => ⟨w.heap.size, 0, rfl, by have := HSz.out; have := HXB.out; omega, fun j hj => by
        obtain rfl : j = 0 := by omega
        refine ⟨?_, ?_, ?_⟩ <;> (rw [cell_of_row _ _ _ _ _ _ HR0.out]; rfl)⟩
      have HAT : Hid (AttrsAt wo (some ⟨w.heap.size + 1, 0, none⟩) 1 (fun _ => ⟨#[118]⟩) (fun _ => 1)) := fun _ => ⟨w.heap.size + 1, 0, rfl, by have := HSz.out; have := HXB.out; omega, fun j hj => by
        obtain rfl : j = 0 := by omega
        refine ⟨?_, ?_⟩ <;> (rw [cell_of_row _ _ _ _ _ _ HR1.out]; rfl)⟩
      have HRX : Hid (∀ W, Below wo.heap.size wo W → (W.cell? ⟨xb, 0, none⟩ = some (.slice (some ⟨w.heap.size, 0, none⟩) 1 1) ∧ W.cell? ⟨xb, 1, none⟩ = some (.slice (some ⟨w.heap.size + 1, 0, none⟩) 1 1) ∧ W.cell? ⟨xb, 2, none⟩ = some (.slice XA k xc)) ∧ W.frozen? ⟨xb, 0, none⟩ = false ∧ W.frozen? ⟨xb, 1, none⟩ = false ∧ W.frozen? ⟨xb, 2, none⟩ = false) := fun W hW => three_at ((hW.block xb HSz.out).trans HX.out)
      have HAX : Hid (ArAt wo ⟨some ⟨w.heap.size, 0, none⟩, 1, some ⟨w.heap.size + 1, 0, none⟩, 1, XA, xc⟩ (mD k)) := ⟨HDI.out, HAT.out, HCE.out⟩
      have HCk : Hid (∀ W, Below wo.heap.size wo W → Calls Tryz.prog 14 #[ArrV (some ⟨w.heap.size, 0, none⟩) 1 1 (some ⟨w.heap.size + 1, 0, none⟩) 1 1 XA k xc] W fun e w' => e = .returned (.int .i64 (if 4096 < k then 9 else 0)) ∧ Below W.heap.size W w') := fun W hW => by
        have h := as_Check W _ (mD k) (HAX.out.below hW) (m_ok k (by omega))
        rwa [m_check k (by omega)] at h
      have HBo : Hid (Below w.heap.size w wo) := HBr
      obtain ⟨⟨x0, x1, x2⟩, f0, f1, f2⟩ := HRX.out wo (Below.refl _ _)
      clear hce
      by_cases h96 : 4096 < k
      · have HMk := s_Make_many wo (some ⟨w.heap.size, 0, none⟩) (some ⟨w.heap.size + 1, 0, none⟩) XA 1 1 1 1 k xc (fun _ => ⟨#[120]⟩) (fun _ => 0) (fun _ => 1073741825) (fun _ => ⟨#[118]⟩) (fun _ => 1) HDI.out HAT.out (by rw [m_many, if_pos h96]; decide)
        rw [m_many, if_pos h96] at HMk
        have HMk := Lib.hid HMk
        simp only [if_pos h96] at HCk
        have hgt : (k : Int) > 4096 := by omega
        have HDB : Hid (dbZ (fun _ => ⟨#[97]⟩) (fun _ => mD k) 1 = 2) := m_db k (by omega) h96
        go_wp2_with (first
          | (go_at_call 12; refine HMk.out.mono ?_; rintro e w1 ⟨rfl, hb1⟩; have HB1 : Hid (Below wo.heap.size wo (w1.alloc (.cells #[.slice none 0 0, .slice none 0 0, .slice none 0 0] 29))) := st hb1 (bel_nw _ _); have KY := Lib.hid (heap_alloc_new w1 (.cells #[.slice none 0 0, .slice none 0 0, .slice none 0 0] 29)); have hl1 : w1.heap.size < (w1.alloc (.cells #[.slice none 0 0, .slice none 0 0, .slice none 0 0] 29)).heap.size := (by simp); obtain ⟨⟨x0, x1, x2⟩, f0, f1, f2⟩ := HRX.out _ HB1.out)
          | (go_at_call 14; refine (HCk.out _ HB1.out).mono ?_; rintro e w3 ⟨rfl, hb3⟩; have HB3 := Lib.hid (st HB1.out hb3); obtain ⟨⟨x0, x1, x2⟩, f0, f1, f2⟩ := HRX.out _ HB3.out; obtain ⟨⟨y0, y1, y2⟩, z0, z1, z2⟩ := three_at ((hb3.block _ hl1).trans KY.out)))
        have HN9 : Hid (DbAt (w3.alloc (.cells #[.string ⟨#[97]⟩, .slice (some ⟨w.heap.size, 0, none⟩) 1 1, .slice (some ⟨w.heap.size + 1, 0, none⟩) 1 1, .slice XA k xc] 49)) (some ⟨w3.heap.size, 0, none⟩) 1 (fun _ => ⟨#[97]⟩) (fun _ => ⟨some ⟨w.heap.size, 0, none⟩, 1, some ⟨w.heap.size + 1, 0, none⟩, 1, XA, xc⟩) (fun _ => mD k)) := ⟨fun _ => ⟨w3.heap.size, 0, rfl, by simp, fun j hj => by
          obtain rfl : j = 0 := by omega
          refine ⟨⟨?_, ?_, ?_, ?_⟩, HAX.out.below (st HB3.out (bel_nw _ _))⟩ <;> (rw [cell_of_row _ _ _ _ _ _ (heap_alloc_new w3 (.cells #[.string ⟨#[97]⟩, .slice (some ⟨w.heap.size, 0, none⟩) 1 1, .slice (some ⟨w.heap.size + 1, 0, none⟩) 1 1, .slice XA k xc] 49))]; rfl)⟩⟩
        have HDc := s_Database _ _ 1 1 _ _ _ HN9.out (fun j hj => ⟨by show (1 : Nat) ≤ _; decide, m_ok k (by omega)⟩)
        rw [HDB.out] at HDc
        refine HDc.mono ?_
        rintro e w5 ⟨rfl, hb5⟩
        have HB5 := Lib.hid (st HBo.out (st HB3.out (st (bel_nw w3 (.cells #[.string ⟨#[97]⟩, .slice (some ⟨w.heap.size, 0, none⟩) 1 1, .slice (some ⟨w.heap.size + 1, 0, none⟩) 1 1, .slice XA k xc] 49)) hb5)))
        clear HDc
        go_wp2_with fail
        refine (HW.out _ HB5.out).mono ?_
        rintro e w6 ⟨rfl, hb6⟩
        go_wp2
        go_ret
        exact ⟨rfl, st HB5.out hb6⟩
      · have hgt : ¬ (k : Int) > 4096 := by omega
        simp only [if_neg h96] at HCk
        have HMk := Lib.hid (s_Make_ok wo (some ⟨w.heap.size, 0, none⟩) (some ⟨w.heap.size + 1, 0, none⟩) XA 1 1 1 1 k xc (fun _ => ⟨#[120]⟩) (fun _ => 0) (fun _ => 1073741825) (fun _ => ⟨#[118]⟩) (fun _ => 1) mC HDI.out HAT.out HCE.out (by omega) (by omega) (by omega) (by omega) (by omega) (m_ok k (by omega)).cS (by rw [m_many, if_neg h96]) (fun j hj => m_cel k j (by omega) hj) (fun j h1 hj => m_di k j h1 hj))
        have HOk := Lib.hid (m_ok k (by omega))
        have HSm := Lib.hid (m_same k (by omega))
        have HEq : Hid (eqAr (mD k) (mD k) = true) := eqAr_refl _
        go_wp2_with (first
          | (go_at_call 12; refine HMk.out.mono ?_; rintro e w1 ⟨q, rfl, hq, hb1⟩; have HB1 : Hid (Below wo.heap.size wo (w1.alloc (q.obj 1 1 k))) := st hb1 (bel_nw _ _); have KY := Lib.hid (heap_alloc_new w1 (q.obj 1 1 k)); have hl1 : w1.heap.size < (w1.alloc (q.obj 1 1 k)).heap.size := (by simp); have HAY : Hid (ArAt (w1.alloc (q.obj 1 1 k)) q (mD k)) := ArAt.below ⟨hq.dims, hq.attrs, m_re _ _ _ _ (fun j hj => m_num k j hj) hq.cells.at⟩ (bel_nw _ _); obtain ⟨⟨x0, x1, x2⟩, f0, f1, f2⟩ := HRX.out _ HB1.out; clear hq)
          | (go_at_call 14; refine (HCk.out _ HB1.out).mono ?_; rintro e w3 ⟨rfl, hb3⟩; have HB3 := Lib.hid (st HB1.out hb3); have HB3' := Lib.hid hb3; obtain ⟨⟨x0, x1, x2⟩, f0, f1, f2⟩ := HRX.out _ HB3.out; obtain ⟨⟨y0, y1, y2⟩, z0, z1, z2⟩ := three_at ((hb3.block _ hl1).trans KY.out))
          | (go_at_call 13; have hE := ar_Equal w3 ⟨some ⟨w.heap.size, 0, none⟩, 1, some ⟨w.heap.size + 1, 0, none⟩, 1, XA, xc⟩ q (mD k) (mD k) (HAX.out.below HB3.out) HOk.out (HAY.out.below HB3'.out) HOk.out; rw [HEq.out] at hE; refine hE.mono ?_; rintro e w4 ⟨rfl, hb4⟩; have HB4 := Lib.hid (st HB3.out hb4); have HB4' := Lib.hid (st HB3'.out hb4); obtain ⟨⟨x0, x1, x2⟩, f0, f1, f2⟩ := HRX.out _ HB4.out; obtain ⟨⟨y0, y1, y2⟩, z0, z1, z2⟩ := three_at ((HB4'.out.block _ hl1).trans KY.out); clear hE)
          | (go_at_call 16; have hE := as_Same w4 ⟨some ⟨w.heap.size, 0, none⟩, 1, some ⟨w.heap.size + 1, 0, none⟩, 1, XA, xc⟩ q (mD k) (mD k) (HAX.out.below HB4.out) HOk.out (HAY.out.below HB4'.out) HOk.out; rw [HSm.out] at hE; refine hE.mono ?_; rintro e w5 ⟨rfl, hb5⟩; have HB5 := Lib.hid (st HBo.out (st HB4.out hb5)); clear hE))
        refine (HW.out _ HB5.out).mono ?_
        rintro e w6 ⟨rfl, hb6⟩
        go_wp2
        go_ret
        exact ⟨rfl, st HB5.out hb6⟩
end Go.Proofs.YthmnmologmmeaaaGreatDoor
