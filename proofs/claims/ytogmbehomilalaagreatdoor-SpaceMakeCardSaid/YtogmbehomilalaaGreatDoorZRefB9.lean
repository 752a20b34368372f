/- The reference's natural numbers: products. -/
import Derived.Test.YtogmbehomilalaaGreatDoorZNat9
import Derived.Deep.LoopGhost
import Derived.Deep.RegionWith
import Derived.StillTailTactics
import Derived.Test.YtogmbehomilalaaGreatDoorZMathT
import Derived.Lib.BitFns
import Derived.Laws.IdiomStrings
import Derived.Test.YtogmbehomilalaaGreatDoorZDo
import Derived.Test.YtogmbehomilalaaGreatDoorZPrtG
import Derived.Deep.RegionHeld3

/- The reference's natural numbers: products. -/
section
namespace Go.Proofs.YtogmbehomilalaaGreatDoor
open Go.RowKit Go.Deep

theorem set_nat9 {w : World} {b t n : Nat} {f : Nat → Nat} (h : w.rowIs b t n fun j => U9 (f j)) (i v : Nat) (u : Value) (hu : u = U9 v) : (w.setCell ⟨b, i, none⟩ u).rowIs b t n fun j => U9 (upd f i v j) := by
  subst hu
  refine (h.set i _).congr fun j _ => ?_
  unfold upd
  by_cases e : j = i
  · simp only [if_pos e]
  · simp only [if_neg e]

/-- In the middle of one digit's products: k of them are done. -/
def MulIn (x y i m' k cy : Nat) (f F : Nat → Nat) : Prop :=
  (k ≤ m' ∧ vl9 (fun j => F (i + j)) k + cy * B9 ^ k = vl9 (fun j => f (i + j)) k + dig9 x i * vl9 (dig9 y) k ∧ (∀ j, i + k ≤ j → F j = f j)) ∨
  (k = m' + 1 ∧ cy = 0 ∧ vl9 (fun j => F (i + j)) (m' + 1) = vl9 (fun j => f (i + j)) m' + dig9 x i * y ∧ ∀ j, i + m' + 1 ≤ j → F j = f j)
theorem MulIn.step {x y i k cy : Nat} {f F : Nat → Nat} (h : MulIn x y i (nw9 y) k cy f F) (hk : k < nw9 y) :
    MulIn x y i (nw9 y) (k + 1) ((F (i + k) + dig9 x i * dig9 y k + cy) / B9) f (upd F (i + k) ((F (i + k) + dig9 x i * dig9 y k + cy) % B9)) := by
  rcases h with ⟨_, h2, h3⟩ | ⟨h1, _⟩
  · refine .inl ⟨by omega, ?_, fun j hj => by rw [upd_ne _ _ _ _ (by omega)]; exact h3 j (by omega)⟩
    have e : F (i + k) = f (i + k) := h3 _ (Nat.le_refl _)
    rw [e]
    exact mul_step9 (fun j => f (i + j)) (fun j => F (i + j)) _ (dig9 y) k cy (dig9 x i) (fun j hj => upd_ne _ _ _ _ (by omega)) (upd_same _ _ _) h2
  · omega
theorem MulIn.last {x y i cy : Nat} {f F : Nat → Nat} (h : MulIn x y i (nw9 y) (nw9 y) cy f F) (h0 : f (i + nw9 y) = 0) :
    F (i + nw9 y) = 0 ∧ MulIn x y i (nw9 y) (nw9 y + 1) 0 f (upd F (i + nw9 y) cy) := by
  rcases h with ⟨_, h2, h3⟩ | ⟨h1, _⟩
  · refine ⟨by rw [h3 _ (Nat.le_refl _)]; exact h0, .inr ⟨rfl, rfl, ?_, fun j hj => by rw [upd_ne _ _ _ _ (by omega)]; exact h3 j (by omega)⟩⟩
    rw [vl_succ9, vl_congr9 _ (fun j => F (i + j)) _ (fun j hj => upd_ne _ _ _ _ (by omega)), upd_same, h2, vl_dig_lt9 y _ (lt_nw9 y)]
  · omega
theorem MulIn.end_ {x y i k cy : Nat} {f F : Nat → Nat} (h : MulIn x y i (nw9 y) k cy f F) (hk : nw9 y ≤ k) (hc : cy = 0) (h0 : ∀ j, i + nw9 y ≤ j → f j = 0) (hV : vl9 f (i + nw9 y) = vl9 (dig9 x) i * y) (hlow : ∀ j, j < i → F j = f j) :
    vl9 F (i + 1 + nw9 y) = vl9 (dig9 x) (i + 1) * y ∧ ∀ j, i + 1 + nw9 y ≤ j → F j = 0 := by
  subst hc
  rcases h with ⟨h1, h2, h3⟩ | ⟨h1, _, h2, h3⟩
  · obtain rfl : k = nw9 y := by omega
    refine ⟨times_step9 f F (dig9 x) i _ y hlow ?_ hV, fun j hj => by rw [h3 j (by omega)]; exact h0 j (by omega)⟩
    rw [vl_succ9]
    show _ + F (i + nw9 y) * _ = _
    rw [h3 _ (Nat.le_refl _), h0 _ (Nat.le_refl _), Nat.zero_mul, Nat.add_zero]
    rw [vl_dig_lt9 y _ (lt_nw9 y), Nat.zero_mul, Nat.add_zero] at h2
    exact h2
  · exact ⟨times_step9 f F (dig9 x) i _ y hlow h2 hV, fun j hj => by rw [h3 j (by omega)]; exact h0 j (by omega)⟩

set_option maxRecDepth 100000 in
set_option maxHeartbeats 4000000 in
theorem r_times (w : World) (u v : Value) (x y : Nat) (hu : N9At w u x) (hv : N9At w v y) (hn : nw9 x ≤ 1000000000) (hn' : nw9 y ≤ 1000000000) :
    Calls Tryz.prog 196 #[u, v] w (Nat9 (x * y) w) := by
  have HU := Lib.hid hu
  have HV := Lib.hid hv
  obtain ⟨A, c, rfl, h1, h2, h3⟩ := hu
  obtain ⟨A', c', rfl, h1', h2', h3'⟩ := hv
  have hmk := fun W => run_make_row' (P := Tryz.prog) 183 169 (.int .u32 0) 4 Tryz.underlying183 info_u32 rfl .i64 .i64 (nw9 x + nw9 y) (by omega) (by omega) W
  simp only [Int.natCast_add] at hmk
  clear h3' h1 h2 h1' h2'
  go_enter Tryz.func196, Tryz.ntmps196
  go_wp2
  clear hmk
  go_loopg [6] (nw9 x) (fun g i wr => ∃ (n : Nat) (f : Nat → Nat), g = nw9 x - n ∧ n ≤ nw9 x ∧ i = .int .i64 n ∧ wr.rowIs w.heap.size 169 (nw9 x + nw9 y) (fun j => U9 (f j)) ∧ Below w.heap.size w wr ∧
    Hid ((∀ j, f j < B9) ∧ vl9 f (n + nw9 y) = vl9 (dig9 x) n * y ∧ ∀ j, n + nw9 y ≤ j → f j = 0))
  case atStart =>
    refine ⟨0, fun _ => 0, by omega, Nat.zero_le _, rfl, World.rowIs_made _ _ _ _, (Below.refl _ _).alloc (Nat.le_refl _) _, fun j => B9_pos, ?_, fun j _ => rfl⟩
    show vl9 _ (0 + nw9 y) = 0 * y
    rw [Nat.zero_mul]
    generalize 0 + nw9 y = q
    induction q with
    | zero => rfl
    | succ q ih => rw [vl_succ9, ih, Nat.zero_mul]
  case round =>
    obtain ⟨n, f, rfl, hnx, rfl, hrow, hb, HF⟩ := hrel
    have hsz : w.heap.size < wr.heap.size := hrow.lt
    by_cases hlt : n < nw9 x
    · obtain ⟨b, o, rfl, hbb, hcell⟩ := h3 (by omega)
      have hI0 : MulIn x y n (nw9 y) 0 0 f f := .inl ⟨Nat.zero_le _, by simp [vl9], fun _ _ => rfl⟩
      have HI0 := Lib.hid hI0
      have HC := Lib.hid hcell
      clear hI0 h3 hcell
      go_wp2
      obtain ⟨wo, rfl⟩ : ∃ wo : World, wo = wr := ⟨_, rfl⟩
      go_loopg [7, 8] (nw9 y + 1) (fun g cy k wr => ∃ (k2 q : Nat) (F : Nat → Nat), g = nw9 y + 1 - k2 ∧ k = .int .i64 k2 ∧ cy = U q ∧ k2 ≤ nw9 y + 1 ∧ q < 1000000000 ∧ wr.rowIs w.heap.size 169 (nw9 x + nw9 y) (fun j => U9 (F j)) ∧ Below w.heap.size w wr ∧
        Hid ((∀ j, F j < B9) ∧ MulIn x y n (nw9 y) k2 q f F ∧ ∀ j, j < n → F j = f j))
      case atStart => exact ⟨0, 0, f, by omega, rfl, rfl, by omega, by omega, hrow, hb, HF.out.1, HI0.out, fun _ _ => rfl⟩
      case round =>
        obtain ⟨k2, q, F, rfl, rfl, rfl, hk2, hq, hrow2, hb2, HI⟩ := hrel
        have HDg := Lib.hid (fun m => r_digitN (wr.drewN m) _ k2 y ((HV.out.below hb2).drewN m))
        have hxc : wr.cell? ⟨b, o + n, none⟩ = some (U9 (dig9 x n)) := (hb2.cell (p := ⟨b, o + n, none⟩) hbb).trans (HC.out n hlt)
        have hsz2 : w.heap.size < wr.heap.size := hrow2.lt
        have HR := Lib.hid hrow2
        have HB2 := Lib.hid hb2
        have hda := dig_lt9 x n
        have hdb := dig_lt9 y k2
        rcases (by omega : (nw9 y ≤ k2 ∧ q = 0) ∨ k2 < nw9 y ∨ (nw9 y ≤ k2 ∧ 0 < q)) with ⟨hky, hq0⟩ | hky | ⟨hky, hq0⟩
        · have HE := Lib.hid (HI.out.2.1.end_ hky hq0 HF.out.2.2 HF.out.2.1 HI.out.2.2)
          subst hq0
          clear hda hdb hrow2 hb2 hrow hb HI0 hxc
          go_wp2
          go_roundg (nw9 x - (n + 1))
          case measure => omega
          case rel => exact ⟨n + 1, F, rfl, by omega, by go_num, HR.out, HB2.out, HI.out.1, HE.out.1, HE.out.2⟩
        all_goals
          have hk3 : k2 ≤ nw9 y ∧ Hid (MulIn x y n (nw9 y) (k2 + 1) ((F (n + k2) + dig9 x n * dig9 y k2 + q) / B9) f (upd F (n + k2) ((F (n + k2) + dig9 x n * dig9 y k2 + q) % B9))) := by
            first
            | exact ⟨by omega, HI.out.2.1.step hky⟩
            | (rcases HI.out.2.1 with h9 | h9
               · have h8 : k2 = nw9 y := by omega
                 subst h8
                 obtain ⟨h7, h6⟩ := HI.out.2.1.last (HF.out.2.2 _ (Nat.le_refl _))
                 refine ⟨Nat.le_refl _, ?_⟩
                 show MulIn _ _ _ _ _ _ _ _
                 rw [h7, dig_ge9 y _ _ (lt_nw9 y) (Nat.le_refl _), Nat.mul_zero, Nat.zero_add, Nat.div_eq_of_lt (show q < B9 from hq), Nat.mod_eq_of_lt (show q < B9 from hq)]
                 exact h6
               · omega)
          obtain ⟨hk4, HStep⟩ := hk3
          have hS := hrow2.cell (i := n + k2) (by omega)
          have hZ := hrow2.frozen (n + k2)
          have hF := HI.out.1 (n + k2)
          have HCy := Lib.hid (mul_carry9 (dig9 x n) (dig9 y k2) q (F (n + k2)) hda hdb hq hF)
          have HLt := Lib.hid (mul_lt9 (dig9 x n) (dig9 y k2) q (F (n + k2)) hda hdb hq hF)
          generalize hgz : F (n + k2) = z at *
          generalize dig9 x n = a at *
          generalize dig9 y k2 = d at *
          have HGZ := Lib.hid hgz
          have HA := Lib.hid hda; have HBd := Lib.hid hdb; have HFz := Lib.hid hF; have HQ := Lib.hid hq
          clear hrow2 hb2 hrow hb hgz hda hdb hF hq HI0
          have hnk : n + k2 ≤ 2000000000 := by omega
          have hi0 : ¬ ((n : Int) + (k2 : Int) < 0) := by omega
          have hi1 : (n : Int) + (k2 : Int) < (nw9 x : Int) + (nw9 y : Int) := by omega
          have hi2 : ((n : Int) + (k2 : Int)).toNat = n + k2 := by omega
          have hwr : IntKind.i64.wrap ((n : Int) + (k2 : Int)) = ((n + k2 : Nat) : Int) := by rw [IntKind.wrap_i64]; omega
          go_wp2_with fail
          go_quiet ((exact (HDg.out _).mono (fun e w9 h9 => ⟨h9.1, _, h9.2.symm⟩)))
          have hSe : IntKind.u64.wrap (IntKind.u64.wrap (IntKind.u64.wrap (z : Int) + IntKind.u64.wrap (IntKind.u64.wrap (a : Int) * (d : Int))) + (q : Int)) = ((z + a * d + q : Nat) : Int) := by
            have h1 := HA.out; have h2 := HBd.out; have h3 := HFz.out; have h4 := HLt.out; have h5 := HQ.out
            unfold B9 at h1 h2 h3 h4
            have e1 : IntKind.u64.wrap (a : Int) = (a : Int) := by rw [IntKind.wrap_u64]; omega
            have e2 : IntKind.u64.wrap (z : Int) = (z : Int) := by rw [IntKind.wrap_u64]; omega
            have e3 : (a : Int) * (d : Int) = ((a * d : Nat) : Int) := by push_cast; rfl
            rw [e1, e2, e3]
            generalize a * d = p at *
            simp only [IntKind.wrap_u64]
            omega
          rw [hSe]
          clear hSe
          generalize z + a * d + q = S at *
          have hS18 : S < 1000000000000000000 := by have h4 := HLt.out; unfold B9 at h4; exact h4
          have HS18 := Lib.hid hS18
          clear hS18
          go_wp2
          go_roundg (nw9 y + 1 - (k2 + 1))
          case measure => omega
          case rel =>
            refine ⟨k2 + 1, S / B9, upd F (n + k2) (S % B9), rfl, by go_num, ?_, by omega, HCy.out, set_nat9 (show (wr.drewN nq).rowIs _ _ _ _ from HR.out) (n + k2) _ _ ?_, (below_drewN HB2.out nq).setCell (p := ⟨w.heap.size, n + k2, none⟩) (Nat.le_refl w.heap.size) _, fun j => ?_, HStep.out, fun j hj => ?_⟩
            · exact congrArg (Value.int .u64) (by rw [IntKind.wrap_u64]; have h9 := HS18.out; unfold B9; omega)
            · exact congrArg (Value.int .u32) (by unfold B9; omega)
            · by_cases e : j = n + k2
              · subst e; rw [upd_same]; exact Nat.mod_lt _ B9_pos
              · rw [upd_ne _ _ _ _ e]; exact HI.out.1 j
            · rw [upd_ne _ _ _ _ (by omega)]; exact HI.out.2.2 j hj
    · obtain rfl : n = nw9 x := by omega
      have hval : vl9 f (nw9 x + nw9 y) = x * y := by rw [HF.out.2.1, vl_dig_lt9 x _ (lt_nw9 x)]
      have hg : ∀ j, j < nw9 x + nw9 y → f j < B9 := fun j _ => HF.out.1 j
      have HG : Hid (x * y < B9 ^ (nw9 x + nw9 y)) := by
        show _ < _
        rw [← hval]; exact vl_lt9 _ _ hg
      have HD : Hid (D9 wr wr.heap.size (some ⟨w.heap.size, 0, none⟩) (nw9 x + nw9 y) (dig9 (x * y))) := D9.row hrow fun j hj => by rw [← hval, dig_vl9 _ _ hg j hj]
      have HB := Lib.hid hb
      clear hrow hval hg hb h3
      go_wp2_with fail
      refine (r_trim _ wr.heap.size _ _ _ (x * y) HD.out HG.out (Nat.le_refl _) (by omega)).mono ?_
      rintro e w' ⟨rfl, rfl⟩
      go_wp2
      go_ret
      exact ⟨_, rfl, ⟨_, _, rfl, (nw_le9 _ _).2 HG.out, by omega, HD.out.take ((nw_le9 _ _).2 HG.out)⟩, HB.out⟩
end Go.Proofs.YtogmbehomilalaaGreatDoor
end

/- The reference's natural numbers: differences. -/
section
namespace Go.Proofs.YtogmbehomilalaaGreatDoor
open Go.RowKit Go.Deep

set_option maxRecDepth 100000 in
set_option maxHeartbeats 2000000 in
theorem r_minus (w : World) (u v : Value) (x y : Nat) (hu : N9At w u x) (hv : N9At w v y) (hn : nw9 x ≤ 1000000000) (hle : y ≤ x) :
    Calls Tryz.prog 197 #[u, v] w (Nat9 (x - y) w) := by
  have HU := Lib.hid hu
  have HV := Lib.hid hv
  have HY : Hid (y < B9 ^ nw9 x) := Nat.lt_of_le_of_lt hle (lt_nw9 x)
  obtain ⟨A, c, rfl, h1, h2, h3⟩ := hu
  obtain ⟨A', c', rfl, h1', h2', h3'⟩ := hv
  clear h3 h3' h1 h2 h1' h2'
  go_enter Tryz.func197, Tryz.ntmps197
  go_wp2
  go_loopw [5, 6, 7] (fun out cy i wr => ∃ (k q : Nat) (f : Nat → Nat), i = .int .i64 k ∧ cy = U q ∧ q ≤ 1 ∧ k ≤ nw9 x ∧ Own9 wr w.heap.size out k f ∧ Below w.heap.size w wr ∧
    Hid ((∀ j, j < k → f j < B9) ∧ vl9 f k + vl9 (dig9 y) k = vl9 (dig9 x) k + q * B9 ^ k)) (fun _ _ i _ => nw9 x - (intOf i).toNat)
  case atStart => exact ⟨0, 0, fun _ => 0, rfl, rfl, by omega, by omega, Own9.nil _ _ _, Below.refl _ _, fun j hj => absurd hj (by omega), by simp [vl9]⟩
  case round =>
    obtain ⟨k, q, f, rfl, rfl, hq, hk, hown, hb, HF⟩ := hrel
    have HD1 := Lib.hid (r_digitN wr _ k x (HU.out.below hb))
    have HD2 := Lib.hid (r_digitN wr _ k y (HV.out.below hb))
    by_cases hlt : k < nw9 x
    · have hown' := hown
      obtain ⟨A2, c2', rfl, -, -, -⟩ := hown'.out
      have HWn := Lib.hid hown
      have HB := Lib.hid hb
      have hsz := hb.size
      have hdx := dig_lt9 x k
      have hdy := dig_lt9 y k
      clear hown hown' hb
      have Hst := Lib.hid (sub_step9 f (dig9 x) (dig9 y) (upd f k ((dig9 x k + B9 - dig9 y k - q) % B9)) k q (fun j hj => upd_ne _ _ _ _ (by omega)) (upd_same _ _ _) hdx hdy hq HF.out.2)
      unfold B9 at hdx hdy
      go_wp2_with fail
      refine (HD1.out).mono ?_
      rintro e w' ⟨rfl, rfl⟩
      go_wp2_with fail
      refine (HD2.out).mono ?_
      rintro e w' ⟨rfl, rfl⟩
      clear HD1 HD2
      generalize dig9 x k = dx at *
      generalize dig9 y k = dy at *
      have hHD : Hid ((dx + B9 - dy - q) % B9 < B9) := Nat.mod_lt _ B9_pos
      go_wp2_with (at_builtin; refine wpList_app9 rfl _ _ rfl wr _ ((dx + B9 - dy - q) % B9) rfl ?_ w.heap.size _ k f rfl rfl HWn.out (by omega) hsz ?_; (focus (exact congrArg (Value.int .u32) (by unfold B9; omega))); intro v' w' hown2 hb2)
      go_roundw
      case rel =>
        refine ⟨k + 1, 1 - (dx + B9 - dy - q) / B9, upd f k ((dx + B9 - dy - q) % B9), by go_num, ?_, Nat.sub_le _ _, by omega, hown2, HB.out.trans hb2, fun j hj => ?_, Hst.out⟩
        · exact congrArg (Value.int .u64) (by unfold B9; omega)
        · by_cases e : j = k
          · subst e; rw [upd_same]; exact hHD.out
          · rw [upd_ne _ _ _ _ e]; exact HF.out.1 j (by omega)
      case measure => simp [intOf]; omega
    · obtain rfl : k = nw9 x := by omega
      have hl := vl_lt9 f _ HF.out.1
      have hval : vl9 f (nw9 x) = x - y ∧ q = 0 := by
        have h9 := HF.out.2
        rw [vl_dig_lt9 x _ (lt_nw9 x), vl_dig_lt9 y _ HY.out] at h9
        have h8 := lt_nw9 x
        rcases (by omega : q = 0 ∨ q = 1) with h7 | h7
        · subst h7; omega
        · subst h7; omega
      have HG : Hid (x - y < B9 ^ nw9 x) := by
        show _ < _
        rw [← hval.1]; exact hl
      have hown2 := hown.congr (g := dig9 (x - y)) fun j hj => by rw [← hval.1, dig_vl9 _ _ HF.out.1 j hj]
      obtain ⟨A2, c2', rfl, h5, h6, h7⟩ := hown2.out
      have HD := Lib.hid h7
      have HB := Lib.hid hb
      clear hown hown2 h7 hval hb HD1 HD2 HF HY hl
      unfold maxLen at h6
      go_wp2_with fail
      refine (r_trim _ wr.heap.size _ _ _ (x - y) HD.out HG.out h5 (by omega)).mono ?_
      rintro e w' ⟨rfl, rfl⟩
      go_wp2
      go_ret
      exact ⟨_, rfl, ⟨A2, c2', rfl, Nat.le_trans ((nw_le9 _ _).2 HG.out) h5, by omega, HD.out.take ((nw_le9 _ _).2 HG.out)⟩, HB.out⟩
end Go.Proofs.YtogmbehomilalaaGreatDoor
end

/- Comparing the reference's natural numbers. -/
section
namespace Go.Proofs.YtogmbehomilalaaGreatDoor
open Go.RowKit Go.Deep

set_option maxHeartbeats 400000 in
theorem r_compare (w : World) (B : Nat) (A A' : Option Addr) (c c' x y : Nat) (h : D9 w B A (nw9 x) (dig9 x)) (h' : D9 w B A' (nw9 y) (dig9 y)) (hn : nw9 x ≤ 9223372036854775807) :
    Calls Tryz.prog 133 #[.slice A (nw9 x) c, .slice A' (nw9 y) c'] w fun e w' => e = .returned (.int .i64 (cmpN x y)) ∧ ∃ n, w' = w.drewN n := by
  rcases Nat.lt_trichotomy (nw9 x) (nw9 y) with hlt | heq | hgt
  · have H : Hid (cmpN x y = -1) := cmpN_lt (lt_of_nw9 hlt)
    have h2 : ((nw9 x : Int) != (nw9 y : Int)) = true := by rw [bne_iff_ne]; omega
    generalize nw9 x = m at *
    generalize nw9 y = m' at *
    clear h h'
    go_enter Tryz.func133, Tryz.ntmps133
    go_wp2
    go_ret
    exact ⟨by rw [H.out]; rfl, 0, rfl⟩
  · rw [← heq] at h' ⊢
    have HX : Hid (x < B9 ^ nw9 x) := lt_nw9 x
    have HY : Hid (y < B9 ^ nw9 x) := by show y < B9 ^ nw9 x; rw [heq]; exact lt_nw9 y
    clear heq
    generalize nw9 x = m at *
    have h2 : ((m : Int) != (m : Int)) = false := by simp
    go_enter Tryz.func133, Tryz.ntmps133
    go_wp2
    go_loopw [5] (fun i wr => (i = .int .i64 (-1) ∧ x = y ∧ ∃ n, wr = w.drewN n) ∨ ∃ j : Nat, j < m ∧ i = .int .i64 j ∧ x / B9 ^ (j + 1) = y / B9 ^ (j + 1) ∧ ∃ n, wr = w.drewN n) (fun i _ => (intOf i + 1).toNat)
    case atStart =>
      by_cases hm : m = 0
      · subst hm
        have := HX.out
        have := HY.out
        refine .inl ⟨by simp, ?_, 0, rfl⟩
        simp at *
        omega
      · refine .inr ⟨m - 1, by omega, by rw [show ((m - 1 : Nat) : Int) = (m : Int) - 1 by omega], ?_, 0, rfl⟩
        rw [show m - 1 + 1 = m by omega, Nat.div_eq_of_lt HX.out, Nat.div_eq_of_lt HY.out]
    case round =>
      rcases hrel with ⟨rfl, hxy, n, rfl⟩ | ⟨j, hj, rfl, hd, n, rfl⟩
      · have H : Hid (cmpN x y = 0) := by show cmpN x y = 0; rw [hxy]; exact cmpN_eq y
        clear hxy
        go_wp2
        go_ret
        exact ⟨by rw [H.out]; rfl, n, rfl⟩
      · obtain ⟨b, o, rfl, hc⟩ := h.at_ hj
        obtain ⟨b', o', rfl, hc'⟩ := h'.at_ hj
        have HD := Lib.hid hd; clear hd
        rcases Nat.lt_trichotomy (dig9 x j) (dig9 y j) with hl | he | hl
        · have H : Hid (cmpN x y = -1) := cmpN_lt (lt_of_dig9 x y j HD.out hl)
          generalize dig9 x j = u at *
          generalize dig9 y j = v at *
          clear h h'
          go_wp2
          go_quiet (fail)
          go_wp2
          go_ret
          exact ⟨by rw [H.out]; rfl, by first | exact ⟨_, rfl⟩ | exact dr2 _ _ _ | exact dr3 _ _ _ _⟩
        · have HE := Lib.hid (div_of_dig9 x y j HD.out he)
          rw [← he] at hc'
          clear he
          generalize dig9 x j = u at *
          clear h h'
          go_wp2
          go_quiet (fail)
          go_wp2
          go_quiet (fail)
          go_wp2
          go_roundw
          case rel =>
            by_cases hj0 : j = 0
            · subst hj0
              exact .inl ⟨by simp, by simpa using HE.out, by first | exact ⟨_, rfl⟩ | exact dr2 _ _ _ | exact dr3 _ _ _ _⟩
            · refine .inr ⟨j - 1, by omega, by rw [show ((j - 1 : Nat) : Int) = (j : Int) - 1 by omega], ?_, by first | exact ⟨_, rfl⟩ | exact dr2 _ _ _ | exact dr3 _ _ _ _⟩
              rw [show j - 1 + 1 = j by omega]
              exact HE.out
          case measure => simp [intOf]
        · have H : Hid (cmpN x y = 1) := by
            show cmpN x y = 1
            exact cmpN_gt (lt_of_dig9 y x j HD.out.symm hl)
          generalize dig9 x j = u at *
          generalize dig9 y j = v at *
          clear h h'
          go_wp2
          go_quiet (fail)
          go_wp2
          go_quiet (fail)
          go_wp2
          go_ret
          exact ⟨by rw [H.out]; rfl, by first | exact ⟨_, rfl⟩ | exact dr2 _ _ _ | exact dr3 _ _ _ _⟩
  · have H : Hid (cmpN x y = 1) := cmpN_gt (lt_of_nw9 hgt)
    have h2 : ((nw9 x : Int) != (nw9 y : Int)) = true := by rw [bne_iff_ne]; omega
    generalize nw9 x = m at *
    generalize nw9 y = m' at *
    clear h h'
    go_enter Tryz.func133, Tryz.ntmps133
    go_wp2
    go_ret
    exact ⟨by rw [H.out]; rfl, 0, rfl⟩

theorem r_cmpN (w : World) (u v : Value) (x y : Nat) (hu : N9At w u x) (hv : N9At w v y) :
    Calls Tryz.prog 133 #[u, v] w fun e w' => e = .returned (.int .i64 (cmpN x y)) ∧ ∃ n, w' = w.drewN n := by
  obtain ⟨A, c, rfl, h1, h2, h3⟩ := hu
  obtain ⟨A', c', rfl, h1', h2', h3'⟩ := hv
  exact r_compare w _ A A' c c' x y h3 h3' (by omega)
end Go.Proofs.YtogmbehomilalaaGreatDoor
end

/- The reference's natural numbers: quotients and remainders. -/
section
namespace Go.Proofs.YtogmbehomilalaaGreatDoor
open Go.RowKit Go.Deep

set_option maxHeartbeats 1000000 in
theorem r_short (w : World) (v : Value) (x : Nat) (h : N9At w v x) (hn : nw9 x ≤ 2) :
    Calls Tryz.prog 194 #[v] w fun e w' => e = .returned (U x) ∧ w = w' := by
  have HD0 := Lib.hid (r_digitN w v 0 x h)
  have HD1 := Lib.hid (r_digitN w v 1 x h)
  have hx : x < B9 ^ 2 := (nw_le9 _ _).1 hn
  have HX : Hid (dig9 x 0 + 1000000000 * dig9 x 1 = x) := by
    show _ = _
    have h1 := vl_dig_lt9 x 2 hx
    simp only [vl9] at h1
    unfold B9 at h1
    omega
  have hX2 : x < 1000000000000000000 := by unfold B9 at hx; simpa using hx
  have hd0 := dig_lt9 x 0
  have hd1 := dig_lt9 x 1
  obtain ⟨A, c, rfl, -, -, -⟩ := h
  unfold B9 at hd0 hd1
  generalize dig9 x 0 = a at *
  generalize dig9 x 1 = b at *
  clear hx
  have HX2 := Lib.hid hX2
  clear hX2
  go_enter Tryz.func194, Tryz.ntmps194
  go_wp2_with fail
  refine HD0.out.mono ?_
  rintro e w' ⟨rfl, rfl⟩
  go_wp2_with fail
  refine HD1.out.mono ?_
  rintro e w' ⟨rfl, rfl⟩
  go_wp2
  go_ret
  exact ⟨ret_i (by have := HX.out; have := HX2.out; omega), rfl⟩
/-- A call that returned a quotient and a remainder. -/
def Over9 (x y : Nat) (w : World) (e : Ending) (w' : World) : Prop := ∃ q r, e = .returned (.tuple #[q, r]) ∧ N9At w' q (x / y) ∧ N9At w' r (x % y) ∧ Below w.heap.size w w'

set_option maxHeartbeats 1000000 in
theorem r_over_small (w : World) (u v : Value) (x y : Nat) (hu : N9At w u x) (hv : N9At w v y) (hx : nw9 x ≤ 2) (hy2 : nw9 y ≤ 2) (hy : 0 < y) :
    Calls Tryz.prog 170 #[u, v] w (Over9 x y w) := by
  have HU := Lib.hid hu
  have HV := Lib.hid hv
  have HSx := Lib.hid (fun W (hW : Below w.heap.size w W) => r_short W u x (hu.below hW) hx)
  have HSy := Lib.hid (fun W (hW : Below w.heap.size w W) => r_short W v y (hv.below hW) hy2)
  have hx9 : Hid (x < 1000000000000000000) := by show _ < _; have := (nw_le9 _ _).1 hx; unfold B9 at this; simpa using this
  obtain ⟨A, c, rfl, -, -, -⟩ := hu
  obtain ⟨A', c', rfl, -, -, -⟩ := hv
  have c1 : (nw9 x : Int) ≤ 2 := by omega
  have c2 : (nw9 y : Int) ≤ 2 := by omega
  have hy0 : ((y : Int) == 0) = false := by rw [beq_eq_false_iff_ne]; omega
  have hq : Hid (x / y < W64) := Nat.lt_of_le_of_lt (Nat.div_le_self _ _) (by have := hx9.out; unfold W64; omega)
  have hr : Hid (x % y < W64) := Nat.lt_of_le_of_lt (Nat.mod_le _ _) (by have := hx9.out; unfold W64; omega)
  generalize nw9 x = m at *
  generalize nw9 y = m' at *
  go_enter Tryz.func170, Tryz.ntmps170
  go_wp2_with fail
  refine (HSx.out w (Below.refl _ _)).mono ?_
  rintro e w' ⟨rfl, rfl⟩
  go_wp2_with fail
  refine (HSy.out w (Below.refl _ _)).mono ?_
  rintro e w' ⟨rfl, rfl⟩
  go_wp2_with fail
  have e1 : IntKind.u64.wrap ((x : Int) / (y : Int)) = ((x / y : Nat) : Int) := by
    have h1 := hq.out
    unfold W64 at h1
    rw [← Int.natCast_ediv]
    generalize x / y = z at *
    rw [IntKind.wrap_u64]; omega
  have e2 : IntKind.u64.wrap ((x : Int) % (y : Int)) = ((x % y : Nat) : Int) := by
    have h1 := hr.out
    unfold W64 at h1
    rw [← Int.natCast_emod]
    generalize x % y = z at *
    rw [IntKind.wrap_u64]; omega
  have E2 := Lib.hid e2
  rw [e1]
  clear e1 e2
  refine (r_natural w (x / y) hq.out).mono ?_
  rintro e w1 ⟨v1, rfl, hv1, hb1⟩
  have HV1 := Lib.hid hv1
  have HB1 := Lib.hid hb1
  clear hv1 hb1
  go_wp2_with fail
  refine (HSx.out w1 HB1.out).mono ?_
  rintro e w' ⟨rfl, rfl⟩
  go_wp2_with fail
  refine (HSy.out w1 HB1.out).mono ?_
  rintro e w' ⟨rfl, rfl⟩
  go_wp2_with fail
  try rw [E2.out]
  refine (r_natural w1 (x % y) hr.out).mono ?_
  rintro e w2 ⟨v2, rfl, hv2, hb2⟩
  have HV2 := Lib.hid hv2
  have HB2 := Lib.hid hb2
  clear hv2 hb2
  go_wp2
  go_ret2
  exact ⟨v1, v2, rfl, HV1.out.below HB2.out, HV2.out, HB1.out.trans (HB2.out.mono HB1.out.size)⟩

theorem cmpN_le (a b : Nat) (h : a ≤ b) : cmpN a b ≤ 0 := by
  rcases Nat.lt_or_ge a b with h1 | h1
  · rw [cmpN_lt h1]; omega
  · rw [show a = b by omega, cmpN_eq]; omega
theorem cmpN_pos (a b : Nat) (h : b < a) : ¬ cmpN a b ≤ 0 := by rw [cmpN_gt h]; omega

set_option maxRecDepth 100000 in
set_option maxHeartbeats 4000000 in
theorem r_over_big (w : World) (u v : Value) (x y : Nat) (hu : N9At w u x) (hv : N9At w v y) (hn : nw9 x ≤ 100000000) (hn' : nw9 y ≤ 100000000) (hbig : 2 < nw9 x ∨ (nw9 x ≤ 2 ∧ 2 < nw9 y)) (hy : 0 < y) :
    Calls Tryz.prog 170 #[u, v] w (Over9 x y w) := by
  have HU := Lib.hid hu
  have HV := Lib.hid hv
  obtain ⟨A, c, rfl, -, -, hx3⟩ := hu
  obtain ⟨A', c', rfl, -, -, -⟩ := hv
  have hmk := fun W => run_make_row' (P := Tryz.prog) 183 169 (.int .u32 0) 4 Tryz.underlying183 info_u32 rfl .i64 .i64 (nw9 x) (by omega) (by omega) W
  rcases hbig with hbig | ⟨hbig, hbig2⟩
  all_goals
    go_enter Tryz.func170, Tryz.ntmps170
    go_wp2
    clear hmk
    go_loopg [7, 8] (nw9 x) (fun g rest i wr => ∃ (k : Nat) (F : Nat → Nat), g = 0 + k ∧ k ≤ nw9 x ∧ i = .int .i64 ((k : Int) - 1) ∧ wr.rowIs w.heap.size 169 (nw9 x) (fun j => U9 (F j)) ∧ Below w.heap.size w wr ∧ N9At wr rest (x / B9 ^ k % y) ∧
      Hid (∀ j, k ≤ j → j < nw9 x → F j = dig9 (x / y) j))
    case atStart =>
      refine ⟨nw9 x, fun _ => 0, (Nat.zero_add _).symm, Nat.le_refl _, rfl, World.rowIs_made _ _ _ _, (Below.refl _ _).alloc (Nat.le_refl _) _, ?_, fun j h1 h2 => by omega⟩
      rw [Nat.div_eq_of_lt (lt_nw9 x), Nat.zero_mod]
      exact ⟨none, 0, by rw [nw_zero9], by rw [nw_zero9]; exact Nat.le_refl _, by omega, by rw [nw_zero9]; exact D9.zero⟩
    case round =>
      obtain ⟨k, F, rfl, hk, rfl, hrow, hb, hrest, HF⟩ := hrel
      have hsz : w.heap.size < wr.heap.size := hrow.lt
      rcases k with _ | k
      · have e0 : ((0 : Nat) : Int) - 1 = -1 := by omega
        rw [e0]
        clear e0
        have HG : Hid (x / y < B9 ^ nw9 x) := Nat.lt_of_le_of_lt (Nat.div_le_self _ _) (lt_nw9 x)
        have HD : Hid (D9 wr wr.heap.size (some ⟨w.heap.size, 0, none⟩) (nw9 x) (dig9 (x / y))) := D9.row hrow fun j hj => by rw [HF.out j (Nat.zero_le _) hj]
        have HB := Lib.hid hb
        rw [Nat.pow_zero, Nat.div_one] at hrest
        have HR := Lib.hid hrest
        obtain ⟨A1, c1, rfl, -, -, -⟩ := hrest
        clear hrow hb hx3
        go_wp2_with fail
        refine (r_trim _ wr.heap.size _ _ _ (x / y) HD.out HG.out (Nat.le_refl _) (by omega)).mono ?_
        rintro e w' ⟨rfl, rfl⟩
        go_wp2
        go_ret2
        exact ⟨_, _, rfl, ⟨_, _, rfl, (nw_le9 _ _).2 HG.out, by omega, HD.out.take ((nw_le9 _ _).2 HG.out)⟩, HR.out, HB.out⟩
      · have e0 : ((k + 1 : Nat) : Int) - 1 = (k : Int) := by omega
        rw [e0]
        clear e0
        obtain ⟨b, o, rfl, hbb, hcell⟩ := hx3 (by omega)
        have hxc : wr.cell? ⟨b, o + k, none⟩ = some (U9 (dig9 x k)) := (hb.cell (p := ⟨b, o + k, none⟩) hbb).trans (hcell k (by omega))
        have hR := hrest
        obtain ⟨A1, c1, rfl, hm1, hm2, hD1⟩ := hR
        have hRlt : x / B9 ^ (k + 1) % y < y := Nat.mod_lt _ hy
        have hRn : nw9 (x / B9 ^ (k + 1) % y) ≤ nw9 y := nw_mono9 (Nat.le_of_lt hRlt)
        have HDg := Lib.hid (over_digit9 x y k hy)
        have HRs := Lib.hid (over_rest9 x y k hy)
        generalize hRR : x / B9 ^ (k + 1) % y = R at *
        have HRow := Lib.hid hrow
        have HB := Lib.hid hb
        have HD := Lib.hid hD1
        have hd := dig_lt9 x k
        generalize dig9 x k = d at *
        have Hd := Lib.hid hd
        have HRlt := Lib.hid hRlt
        clear hrow hb hD1 hRR hd hRlt hrest hcell hx3
        go_wp2_with (at_builtin; refine wpList_cons9 rfl _ _ rfl wr _ d rfl rfl A1 _ c1 (dig9 R) rfl rfl HD.out (by omega) ?_; intro v' w1 hown1 hb1)
        obtain ⟨A2, c2, rfl, h5, h6, h7⟩ := hown1.out
        have HLo := Lib.hid hown1.lo
        have HD2 := Lib.hid (h7.congr (f := dig9 (R * B9 + d)) fun j hj => by
          rcases j with _ | j
          · rw [if_pos rfl, dig_cons_zero9 R d Hd.out]
          · rw [if_neg (Nat.succ_ne_zero j), dig_cons_succ9 R d j Hd.out, Nat.add_sub_cancel])
        have HLt2 := Lib.hid (cons_lt9 R d _ (lt_nw9 R) Hd.out)
        unfold maxLen at h6
        have HB1 : Hid (Below w.heap.size w w1) := HB.out.trans (hb1.mono HB.out.size)
        have HRow1 : Hid (w1.rowIs w.heap.size 169 (nw9 x) (fun j => U9 (F j))) := by
          obtain ⟨cur, r1, r2⟩ := HRow.out
          exact ⟨cur, (hb1.block _ hsz).trans r1, r2⟩
        have hsz1 : wr.heap.size ≤ w1.heap.size := hb1.size
        clear hown1 h7 hb1
        go_wp2_with fail
        refine (r_trim w1 w1.heap.size A2 _ c2 (R * B9 + d) HD2.out HLt2.out h5 (by omega)).mono ?_
        rintro e w' ⟨rfl, rfl⟩
        have hS2 : nw9 (R * B9 + d) ≤ nw9 R + 1 := (nw_le9 _ _).2 HLt2.out
        have HS : Hid (N9At w1 (.slice A2 (nw9 (R * B9 + d)) c2) (R * B9 + d)) := ⟨A2, c2, rfl, by omega, by omega, HD2.out.take hS2⟩
        have HYb : Hid ((R * B9 + d) / y ≤ 999999999) := by
          show _ ≤ _
          have h1 := HRlt.out; have h2 := Hd.out
          have h3 : (R + 1) * B9 ≤ y * B9 := Nat.mul_le_mul_right _ h1
          rw [Nat.add_mul, Nat.one_mul] at h3
          have h4 : (R * B9 + d) / y < B9 := by rw [Nat.div_lt_iff_lt_mul hy, Nat.mul_comm B9]; omega
          unfold B9 at h4
          unfold B9
          omega
        generalize hSS : R * B9 + d = S at *
        clear hSS HLt2 HD2 hm2 hm1
        go_wp2
        obtain ⟨wo, rfl⟩ : ∃ wo : World, wo = wr := ⟨_, rfl⟩
        go_loopg [9, 10] 999999999 (fun g lo hi wr => ∃ l h : Nat, g = 0 + (h - l) ∧ lo = U l ∧ hi = U h ∧ l ≤ h ∧ h ≤ 999999999 ∧ Hid (l ≤ S / y ∧ S / y ≤ h) ∧ Below w1.heap.size w1 wr)
        case atStart => exact ⟨0, 999999999, by omega, rfl, rfl, by omega, Nat.le_refl _, ⟨Nat.zero_le _, HYb.out⟩, Below.refl _ _⟩
        case round =>
          obtain ⟨l, h, rfl, rfl, rfl, hlh, hh, HLH, hb3⟩ := hrel
          have HB3 := Lib.hid hb3
          have hsz3 := hb3.size
          clear hb3
          by_cases hlt : l < h
          · have hlt' : (l : Int) < (h : Int) := by omega
            have HSn : Hid (N9At wr (.slice A2 (nw9 S) c2) S) := HS.out.below HB3.out
            have HVn : Hid (N9At wr (.slice A' (nw9 y) c') y) := HV.out.below (HB1.out.trans (HB3.out.mono HB1.out.size))
            go_wp2_with fail
            have hM : ((l : Int) + (h : Int) + 1) / 2 = (((l + h + 1) / 2 : Nat) : Int) := by omega
            rw [hM]
            clear hM
            have hM1 : l < (l + h + 1) / 2 := by omega
            have hM2 : (l + h + 1) / 2 ≤ h := by omega
            generalize (l + h + 1) / 2 = M at *
            refine (r_natural wr M (by unfold W64; omega)).mono ?_
            rintro e w4 ⟨v4, rfl, hv4, hb4⟩
            have HT := Lib.hid (r_times w4 _ v4 y M (HVn.out.below hb4) hv4 (by omega) (by have := (nw_le_one9 M).2 (by unfold B9; omega); omega))
            have HS4 := Lib.hid (HSn.out.below hb4)
            have HB4 := Lib.hid (HB3.out.trans (hb4.mono hsz3))
            clear hv4 hb4
            go_wp2_with fail
            refine HT.out.mono ?_
            rintro e w5 ⟨v5, rfl, hv5, hb5⟩
            have HC := Lib.hid (r_cmpN w5 v5 _ (y * M) S hv5 (HS4.out.below hb5))
            have HB5 := Lib.hid (HB4.out.trans (hb5.mono HB4.out.size))
            clear hv5 hb5 HT
            go_wp2_with fail
            refine HC.out.mono ?_
            rintro e w' ⟨rfl, nd, rfl⟩
            have HB6 := Lib.hid (below_drewN HB5.out nd)
            clear HC
            by_cases hle : y * M ≤ S
            · have hc9 := cmpN_le _ _ hle
              have HMl : Hid (M ≤ S / y ∧ S / y ≤ h) := ⟨(Nat.le_div_iff_mul_le hy).2 (by rw [Nat.mul_comm]; exact hle), HLH.out.2⟩
              clear hle
              generalize cmpN (y * M) S = cc at *
              go_wp2
              go_roundg (0 + (h - M))
              case measure => omega
              case rel => exact ⟨M, h, rfl, rfl, rfl, by omega, hh, HMl, HB6.out⟩
            · have hc9 := cmpN_pos _ _ (by omega : S < y * M)
              have HMl : Hid (l ≤ S / y ∧ S / y ≤ M - 1) := ⟨HLH.out.1, by
                have h9 : S / y < M := by rw [Nat.div_lt_iff_lt_mul hy, Nat.mul_comm]; omega
                omega⟩
              clear hle
              generalize cmpN (y * M) S = cc at *
              go_wp2
              go_roundg (0 + (M - 1 - l))
              case measure => omega
              case rel => exact ⟨l, M - 1, rfl, rfl, by go_num, by omega, by omega, HMl, HB6.out⟩
          · obtain rfl : l = h := by omega
            have hlS : Hid (l = S / y) := by have := HLH.out; show _ = _; omega
            have hrow3 : wr.rowIs w.heap.size 169 (nw9 x) (fun j => U9 (F j)) := by
              obtain ⟨cur, r1, r2⟩ := HRow1.out
              exact ⟨cur, (HB3.out.block _ (by omega)).trans r1, r2⟩
            have hS := hrow3.cell (i := k) (by omega)
            have hZ := hrow3.frozen k
            have HRow3 := Lib.hid hrow3
            clear hrow3
            go_wp2_with fail
            have hBs : Below w.heap.size w (wr.setCell ⟨w.heap.size, k, none⟩ (U9 l)) := (HB1.out.trans (HB3.out.mono HB1.out.size)).setCell (p := ⟨w.heap.size, k, none⟩) (Nat.le_refl _) _
            have hsS : (wr.setCell ⟨w.heap.size, k, none⟩ (U9 l)).heap.size = wr.heap.size := nblk_setCell _ _ _
            have hNs : N9At (wr.setCell ⟨w.heap.size, k, none⟩ (U9 l)) (.slice A2 (nw9 S) c2) S := by
              have h1 := HS.out.below HB3.out
              obtain ⟨A9, c9, e9, g1, g2, g3⟩ := h1
              simp only [Value.slice.injEq, true_and] at e9
              obtain ⟨rfl, rfl⟩ := e9
              refine ⟨A2, c2, rfl, g1, g2, fun hp => ?_⟩
              obtain ⟨b9, o9, e, hb9, hc9⟩ := g3 hp
              refine ⟨b9, o9, e, by rw [hsS]; exact hb9, fun j hj => ?_⟩
              have hlo := HLo.out _ e
              rw [World.cell?_setCell_other _ _ _ _ (fun e => by have := congrArg Addr.block e; simp at this; simp at hlo; omega)]
              exact hc9 j hj
            have hRs : (wr.setCell ⟨w.heap.size, k, none⟩ (U9 l)).rowIs w.heap.size 169 (nw9 x) (fun j => U9 (upd F k l j)) := set_nat9 HRow3.out k l _ rfl
            have hF' : Hid (∀ j, k ≤ j → j < nw9 x → upd F k l j = dig9 (x / y) j) := by
              intro j h1 h2
              by_cases e : j = k
              · subst e; rw [upd_same, hlS.out]; exact HDg.out
              · rw [upd_ne _ _ _ _ e]; exact HF.out j (by omega) h2
            have hwlt : w.heap.size < (wr.setCell ⟨w.heap.size, k, none⟩ (U9 l)).heap.size := by rw [hsS]; omega
            have hsx : w.heap.size ≤ (wr.setCell ⟨w.heap.size, k, none⟩ (U9 l)).heap.size := by omega
            change Calls _ _ _ (wr.setCell ⟨w.heap.size, k, none⟩ (U9 l)) _
            generalize wr.setCell ⟨w.heap.size, k, none⟩ (U9 l) = ws at *
            have HBs := Lib.hid hBs; have HNs := Lib.hid hNs; have HRs2 := Lib.hid hRs
            clear hBs hNs hRs hS hZ HRow3
            refine (r_natural ws l (by unfold W64; omega)).mono ?_
            rintro e w4 ⟨v4, rfl, hv4, hb4⟩
            have HT := Lib.hid (r_times w4 _ v4 y l ((HV.out.below HBs.out).below hb4) hv4 (by omega) (by have := (nw_le_one9 l).2 (by unfold B9; omega); omega))
            have HB4 := Lib.hid hb4
            clear hv4 hb4
            go_wp2_with fail
            refine HT.out.mono ?_
            rintro e w5 ⟨v5, rfl, hv5, hb5⟩
            have HB5 := Lib.hid (HB4.out.trans (hb5.mono HB4.out.size))
            have HM := Lib.hid (r_minus w5 _ v5 S (y * l) (HNs.out.below HB5.out) hv5 (by omega) (by have := hlS.out; rw [this]; exact Nat.mul_div_le S y))
            clear hv5 hb5 HT
            go_wp2_with fail
            refine HM.out.mono ?_
            rintro e w6 ⟨v6, rfl, hv6, hb6⟩
            have HB6 := Lib.hid (HB5.out.trans (hb6.mono HB5.out.size))
            have HV6 : Hid (N9At w6 v6 (x / B9 ^ k % y)) := by
              have e9 : S - y * l = x / B9 ^ k % y := by
                rw [← HRs.out, hlS.out]
                have := Nat.div_add_mod S y; omega
              rw [← e9]; exact hv6
            clear hv6 hb6 HM
            go_wp2
            go_roundg (0 + k)
            case measure => omega
            case rel =>
              refine ⟨k, upd F k l, rfl, by omega, by go_num, ?_, HBs.out.trans (HB6.out.mono hsx), HV6.out, hF'.out⟩
              obtain ⟨cur, r1, r2⟩ := HRs2.out
              exact ⟨cur, (HB6.out.block _ hwlt).trans r1, r2⟩
end Go.Proofs.YtogmbehomilalaaGreatDoor
end

/- Plain numbers: decimal digits with zeros in front, and how many binary digits a number has. No condition. -/
section
namespace Go.Proofs.YtogmbehomilalaaGreatDoor
/-- How often a number can be halved. -/
def halves (x : Nat) : Nat := if x = 0 then 0 else halves (x / 2) + 1
termination_by x
decreasing_by omega
end Go.Proofs.YtogmbehomilalaaGreatDoor
end

/- The reference's natural numbers: the greatest common divisor, and how many binary digits a number has. -/
section
namespace Go.Proofs.YtogmbehomilalaaGreatDoor
open Go.RowKit Go.Deep

theorem r_over (w : World) (u v : Value) (x y : Nat) (hu : N9At w u x) (hv : N9At w v y) (hn : nw9 x ≤ 100000000) (hn' : nw9 y ≤ 100000000) (hy : 0 < y) :
    Calls Tryz.prog 170 #[u, v] w (Over9 x y w) := by
  rcases Nat.lt_or_ge 2 (nw9 x) with h1 | h1
  · exact r_over_big w u v x y hu hv hn hn' (.inl h1) hy
  · rcases Nat.lt_or_ge 2 (nw9 y) with h2 | h2
    · exact r_over_big w u v x y hu hv hn hn' (.inr ⟨h1, h2⟩) hy
    · exact r_over_small w u v x y hu hv h1 h2 hy

set_option maxHeartbeats 1000000 in
theorem r_common (w : World) (u v : Value) (x y : Nat) (hu : N9At w u x) (hv : N9At w v y) (hn : nw9 x ≤ 100000000) (hn' : nw9 y ≤ 100000000) :
    Calls Tryz.prog 134 #[u, v] w (Nat9 (Nat.gcd x y) w) := by
  have HU := Lib.hid hu
  have HV := Lib.hid hv
  obtain ⟨A, c, rfl, -, -, -⟩ := hu
  obtain ⟨A', c', rfl, -, -, -⟩ := hv
  go_enter Tryz.func134, Tryz.ntmps134
  go_wp2
  go_loopg [0, 1] y (fun g s t wr => ∃ a b, g = 0 + b ∧ Hid (N9At wr s a ∧ N9At wr t b ∧ Nat.gcd a b = Nat.gcd x y ∧ nw9 a ≤ 100000000 ∧ nw9 b ≤ 100000000 ∧ Below w.heap.size w wr))
  case atStart => exact ⟨x, y, (Nat.zero_add _).symm, HU.out, HV.out, rfl, hn, hn', Below.refl _ _⟩
  case round =>
    obtain ⟨a, b, rfl, H⟩ := hrel
    obtain ⟨h1, h2, h3, h4, h5, h6⟩ := H.out
    obtain ⟨A1, c1, rfl, -, -, -⟩ := h1
    obtain ⟨A2, c2, rfl, -, -, -⟩ := h2
    clear h3 h4 h5 h6
    by_cases hb : b = 0
    · subst hb
      have e : nw9 0 = 0 := nw_zero9
      rw [e] at H ⊢
      clear e
      go_wp2
      go_ret
      obtain ⟨h1, h2, h3, h4, h5, h6⟩ := H.out
      rw [Nat.gcd_zero_right] at h3
      subst h3
      exact ⟨_, rfl, h1, h6⟩
    · have hb0 : 0 < nw9 b := (nw_pos9 b).2 (by omega)
      have hlt : a % b < b := Nat.mod_lt _ (by omega)
      go_wp2_with fail
      refine (r_over wr _ _ a b H.out.1 H.out.2.1 H.out.2.2.2.1 H.out.2.2.2.2.1 (by omega)).mono ?_
      rintro e w1 ⟨q, r, rfl, hq, hr, hb1⟩
      have H' : Hid (N9At w1 (.slice A2 (nw9 b) c2) b ∧ N9At w1 r (a % b) ∧ Nat.gcd b (a % b) = Nat.gcd x y ∧ nw9 b ≤ 100000000 ∧ nw9 (a % b) ≤ 100000000 ∧ Below w.heap.size w w1) :=
        ⟨H.out.2.1.below hb1, hr, by rw [← H.out.2.2.1, Nat.gcd_comm a b, Nat.gcd_rec b a, Nat.gcd_comm], H.out.2.2.2.2.1, Nat.le_trans (nw_mono9 (Nat.le_of_lt hlt)) H.out.2.2.2.2.1, H.out.2.2.2.2.2.trans (hb1.mono H.out.2.2.2.2.2.size)⟩
      obtain ⟨A3, c3, rfl, -, -, -⟩ := hr
      obtain ⟨A4, c4, rfl, -, -, -⟩ := hq
      clear hb1
      generalize a % b = m at *
      go_wp2
      go_roundg (0 + m)
      case measure => omega
      case rel => exact ⟨b, m, rfl, H'⟩

end Go.Proofs.YtogmbehomilalaaGreatDoor
end

/- The reference's decimal strings. -/
section
namespace Go.Proofs.YtogmbehomilalaaGreatDoor
open Go.RowKit Go.Deep

end Go.Proofs.YtogmbehomilalaaGreatDoor
end

/- The reference's rational numbers: made of integers. -/
section
namespace Go.Proofs.YtogmbehomilalaaGreatDoor
open Go.RowKit Go.Deep

/-- The struct r is the reference's number with the sign s and the quotient n by d. -/
def Ref (w : World) (r : Value) (s : Bool) (n d : Nat) : Prop := ∃ u v, r = .agg #[.bool s, u, v] ∧ N9At w u n ∧ N9At w v d
theorem Ref.below {w w' : World} {r : Value} {s : Bool} {n d : Nat} (h : Ref w r s n d) (hb : Below w.heap.size w w') : Ref w' r s n d := by
  obtain ⟨u, v, e, h1, h2⟩ := h
  exact ⟨u, v, e, h1.below hb, h2.below hb⟩
theorem N9At.sl {w : World} {v : Value} {x : Nat} (h : N9At w v x) : ∃ A c, v = .slice A (nw9 x) c := by
  obtain ⟨A, c, e, _⟩ := h
  exact ⟨A, c, e⟩

theorem N9At.apart {w w' : World} {v : Value} {x r : Nat} (h : N9At w v x) (hr : ∀ o y, w.cell? ⟨r, o, none⟩ ≠ some (U9 y)) (hg : w.grownBy w' (some r)) : N9At w' v x := by
  obtain ⟨A, c, e, h1, h2, h3⟩ := h
  refine ⟨A, c, e, h1, h2, fun hn => ?_⟩
  obtain ⟨b, o, e1, hb, hc⟩ := h3 hn
  refine ⟨b, o, e1, Nat.lt_of_lt_of_le hb hg.size, fun k hk => hg.cell (hc k hk) ?_⟩
  intro e2
  have e3 : b = r := by simpa using e2
  subst e3
  exact hr _ _ (hc k hk)

end Go.Proofs.YtogmbehomilalaaGreatDoor
end

/- The reference's rational numbers: the string, the lengths, the sign, whether it is an integer. -/
section
namespace Go.Proofs.YtogmbehomilalaaGreatDoor
open Go.RowKit Go.Deep

set_option maxHeartbeats 1000000 in
theorem r_one (w : World) : Calls Tryz.prog 136 #[.int .u64 1] w (Nat9 1 w) := r_natural w 1 (by decide)

theorem cmp_one (d : Nat) : (cmpN d 1 == 0) = isOneB d := by
  unfold isOneB
  by_cases h : d = 1
  · subst h; rw [cmpN_eq]; rfl
  · have e1 : (d == 1) = false := by simp [h]
    rw [e1, beq_eq_false_iff_ne]
    rcases Nat.lt_or_ge d 1 with h1 | h1
    · rw [cmpN_lt h1]; decide
    · rw [cmpN_gt (by omega)]; decide

end Go.Proofs.YtogmbehomilalaaGreatDoor
end
