/- The sum of a list that ends in a number that is nil, or not the package's: none. -/
import Derived.Test.YtfkjfeobhbocjaaGreatDoorRangeAt
import Derived.Test.YtfkjfeobhbocjaaGreatDoorNil
import Derived.Test.YtfkjfeobhbocjaaGreatDoorNum
import Derived.Shelf.Abstract
import Derived.Shelf.RegionOpen
import Derived.WalkKit
import Derived.OwnWalkIn
import Derived.TacticsInMore
import Derived.LoopNIn
import Derived.LoopIn
namespace Go.Proofs.YtfkjfeobhbocjaaGreatDoor
open Go Go.RowKit Go.Deep Go.Shelf
attribute [local go_sem] Oper.semAt_some

/-- What slices.Values reads: the slice that it was given, and its elements. -/
def ReadsVals (Bs b o len cap : Nat) (xs : Nat → Value) (W : World) : Prop :=
  W.cell? ⟨Bs, 0, none⟩ = some (.slice (some ⟨b, o, none⟩) len cap) ∧ ∀ k, k < len → W.cell? ⟨b, o + k, none⟩ = some (xs k)

set_option maxRecDepth 100000 in
set_option maxHeartbeats 2000000 in
theorem values_iter (F : Fence) (n : Nat) (hF : F.fn 85) (hro : F.round = none) (Bs b o len cap : Nat) (xs : Nat → Value) (hxs : ∀ k, ∃ a, xs k = .pointer a) (hlen : len ≤ 1000000000) (hn : 1 ≤ n) :
    IterAt F n Tryz.prog 85 #[.pointer (some ⟨Bs, 0, none⟩)] (ReadsVals Bs b o len cap xs) (fun k args _ => args = #[xs k]) len := by
  intro l J Jx W hJ hJx hR hY h0
  refine callsIn_of_wp Tryz.func85 rfl hF ?_ hro
  simp only [Tryz.ntmps85, List.size_toArray, List.length_cons, List.length_nil, Nat.reduceAdd, Nat.reduceSub, Array.replicate_succ, Array.replicate_zero, List.push_toArray, List.append_toArray, List.nil_append, List.cons_append]
  have hs := (hR 0 W h0).1
  have HR := Lib.hid hR
  have HY := Lib.hid hY
  have HX := Lib.hid hxs
  clear hR hY hxs
  gi_wp2
  gi_loopw [7] (fun i wr => ∃ k : Nat, k ≤ len ∧ i = .int .i64 k ∧ Hid (J k wr)) (fun i _ => len - (intOf i).toNat)
  case atStart => exact ⟨0, Nat.zero_le _, rfl, h0⟩
  case round =>
    obtain ⟨k, hk, rfl, hj⟩ := hrel
    by_cases hlt : k < len
    · have hc := (HR.out k wr hj.out).2 k hlt
      obtain ⟨fn, tmps, assign, body, hy, hround⟩ := HY.out k #[xs k] wr hlt hj.out rfl
      obtain ⟨a, ha⟩ := HX.out k
      rw [ha] at hc hy
      clear ha
      gi_wp2
      refine hround.mono ?_
      rintro e W3 (⟨rfl, hj3⟩ | ⟨rfl, hjx⟩)
      · have HJ3 := Lib.hid hj3
        clear hj3 hround hy hc
        gi_wp2
        go_roundw
        case rel => exact ⟨k + 1, by omega, by go_num, HJ3⟩
        case measure => simp [intOf]; omega
      · have HJX := Lib.hid hjx
        clear hjx hround hy hc
        gi_wp2
        refine bodyPost_ret (results_none rfl _ _ _) rfl ?_
        exact ⟨⟨_, rfl⟩, .inr HJX.out⟩
    · obtain rfl : k = len := by omega
      gi_wp2
      go_end0
      exact ⟨⟨_, rfl⟩, .inl hj.out⟩

theorem c_values (w : World) (A : Option Addr) (n c : Nat) : Calls Tryz.prog 50 #[.slice A n c] w fun e w' => e = .returned (.func (.func 85) #[] #[.pointer (some ⟨w.heap.size, 0, none⟩)]) ∧ w.alloc (.cells #[.slice A n c] 35) = w' := by
  go_enter Tryz.func50, Tryz.ntmps50
  go_wp2
  go_ret
  exact ⟨rfl, rfl⟩

theorem lt_of_cell {w : World} {b o : Nat} {v : Value} (h : w.cell? ⟨b, o, none⟩ = some v) : b < w.heap.size := by
  by_cases hb : b < w.heap.size
  · exact hb
  · have : w.heap[b]? = none := Array.getElem?_eq_none (by omega)
    simp [World.cell?, this] at h
theorem keeps_of_below {W W' : World} (h : Below W.heap.size W W') : KeepsOthers W W' :=
  ⟨h.size, fun k _ hk _ => (h.block k (Array.getElem?_eq_some_iff.1 hk).1).trans hk⟩

theorem rat_ptr {w : World} {v : Value} {neg : Bool} {n d : Nat} (h : RatAt w v neg n d) : ∃ a, v = .pointer a := by
  obtain ⟨b, _, _, h, _⟩ := h
  exact ⟨_, h⟩
theorem bad_ptr {w : World} {v : Value} (h : Bad w v) : ∃ a, v = .pointer a := by
  rcases h with h | ⟨b, h, _⟩
  · exact ⟨_, h⟩
  · exact ⟨_, h⟩

set_option maxRecDepth 100000 in
set_option maxHeartbeats 4000000 in
theorem b_sum (w : World) (b cap : Nat) (y x : Value) (neg : Bool) (nn d : Nat) (hb : b < w.heap.size) (c0 : w.cell? ⟨b, 0, none⟩ = some y) (c1 : w.cell? ⟨b, 1, none⟩ = some x) (hy : RatAt w y neg nn d) (hx : Bad w x) (hn : nn < W64) (hd : d < W64) :
    Calls Tryz.prog 19 #[.slice (some ⟨b, 0, none⟩) 2 cap] w fun e w' => e = .returned (.pointer none) ∧ Below w.heap.size w w' := by
  have HW : Hid (∀ W, Calls Tryz.prog 41 #[.int .u64 1] W (NatRet W 1)) := fun W => n_word W 1 (by decide)
  have HM : Hid (∀ W v, NatAt W v 1 → Calls Tryz.prog 40 #[.bool false, .slice none 0 0, v] W (RatRet W false 0 1)) := fun W v hv => c_made W (.slice none 0 0) v false 0 1 (NatAt.zero W) hv
  have HY := Lib.hid hy
  have HX := Lib.hid hx
  have HC := Lib.hid (And.intro c0 c1)
  clear hy hx c0 c1
  refine (callsIn_wide (n := 3)).1 ?_
  refine callsIn_of_wp_marks Tryz.func19 rfl trivial ?_ rfl
  simp only [Tryz.ntmps19, List.size_toArray, List.length_cons, List.length_nil, Nat.reduceAdd, Nat.reduceSub, Array.replicate_succ, Array.replicate_zero, List.push_toArray, List.append_toArray, List.nil_append, List.cons_append]
  gi_wp2_with (first
    | (refine ⟨trivial, ?_⟩; gi_at_call 41; refine (callsIn_wide.2 (HW.out _)).mono ?_; rintro e w1 ⟨u1, rfl, hu1, hb1⟩)
    | (refine ⟨trivial, ?_⟩; gi_at_call 40; refine (callsIn_wide.2 (HM.out _ _ hu1)).mono ?_; rintro e wS ⟨su, rfl, hsu, hbS⟩; obtain ⟨sa, hsa⟩ := rat_ptr hsu; subst hsa)
    | (refine ⟨trivial, ?_⟩; gi_at_call 50; refine (callsIn_wide.2 (c_values _ _ _ _)).mono ?_; rintro e wV ⟨rfl, rfl⟩))
  obtain ⟨ya, rfl⟩ := rat_ptr HY.out
  obtain ⟨xa, rfl⟩ := bad_ptr HX.out
  have bw1 : Below w.heap.size w w1 := btr ((Below.refl _ _).alloc (Nat.le_refl _) _) hb1
  have bS : Below w.heap.size w wS := btr bw1 hbS
  have hrS : wS.heap[w.heap.size]? = some (.cells #[.pointer none] 28 (0, 0)) := (hbS.block _ (by have := hb1.size; simp at this; omega)).trans ((hb1.block _ (by simp)).trans (heap_alloc_new w _))
  have hrl : w.heap.size < wS.heap.size := (Array.getElem?_eq_some_iff.1 hrS).1
  have HS := Lib.hid hsu
  have HBS := Lib.hid bS
  have HRS := Lib.hid hrS
  clear hu1 hb1 hbS hsu bw1 bS hrS
  have n0 := heap_alloc_new wS (.cells #[.pointer sa] 28)
  have n1 := heap_alloc_new (wS.alloc (.cells #[.pointer sa] 28)) (.cells #[.slice (some ⟨b, 0, none⟩) 2 cap] 35)
  rw [World.size_alloc] at n1
  have n0' := (Below.heap_alloc (wS.alloc (.cells #[.pointer sa] 28)) (.cells #[.slice (some ⟨b, 0, none⟩) 2 cap] 35) wS.heap.size (by simp)).trans n0
  have bL : Below wS.heap.size wS ((wS.alloc (.cells #[.pointer sa] 28)).alloc (.cells #[.slice (some ⟨b, 0, none⟩) 2 cap] 35)) := ((Below.refl _ _).alloc (Nat.le_refl _) _).alloc (by simp) _
  have zL : ((wS.alloc (.cells #[.pointer sa] 28)).alloc (.cells #[.slice (some ⟨b, 0, none⟩) 2 cap] 35)).heap.size = wS.heap.size + 2 := by simp
  generalize (wS.alloc (.cells #[.pointer sa] 28)).alloc (.cells #[.slice (some ⟨b, 0, none⟩) 2 cap] 35) = L at *
  obtain ⟨xs, e0, e1⟩ : ∃ xs : Nat → Value, xs 0 = .pointer ya ∧ ∀ k, k ≠ 0 → xs k = .pointer xa := ⟨fun k => if k = 0 then .pointer ya else .pointer xa, rfl, fun k h => if_neg h⟩
  have E0 := Lib.hid e0
  have E1 := Lib.hid e1
  clear e0 e1
  refine wpIn_range_at (gf := 85) (lb := #[.pointer (some ⟨wS.heap.size + 1, 0, none⟩)]) rfl (by omega) rfl trivial (enters_of Tryz.func85 (by kernel_rfl) rfl)
    (values_iter Fence.wide _ trivial rfl (wS.heap.size + 1) b 0 2 cap xs (fun k => by by_cases h : k = 0; exact ⟨_, by rw [h]; exact E0.out⟩; exact ⟨_, E1.out k h⟩) (by omega) (by omega))
    (fun k args W h => by rw [h]; rfl)
    (fun k W => (k ≤ 1 ∧ W.cell? ⟨wS.heap.size + 1, 0, none⟩ = some (.slice (some ⟨b, 0, none⟩) 2 cap) ∧ (∃ a, W.cell? ⟨wS.heap.size, 0, none⟩ = some (.pointer a) ∧ (k = 0 → a = sa)) ∧ W.frozen? ⟨wS.heap.size, 0, none⟩ = false) ∧ Below wS.heap.size wS W)
    (fun c W => (c = .ret ∧ W.cell? ⟨w.heap.size, 0, none⟩ = some (.pointer none)) ∧ Below w.heap.size w W)
    (OwnFrom.and (Own.from (fun s A B row hs hg hr => ⟨hs.1, cell_kept hs.2.1 hg hr, by obtain ⟨a, h1, h2⟩ := hs.2.2.1; exact ⟨a, cell_kept h1 hg hr, h2⟩, by obtain ⟨a, h1, h2⟩ := hs.2.2.1; exact (frozen_kept h1 hg hr).trans hs.2.2.2⟩) _) (ownFrom_below (Nat.le_refl _) (by omega)))
    (OwnFrom.and (Own.from (fun s A B row hs hg hr => ⟨hs.1, cell_kept hs.2 hg hr⟩) _) (ownFrom_below (Nat.le_refl _) (by omega)))
    (fun s W W' row hs hg hr => hs) ?reads ?start
    (fun args => { tmps := #[.slice (some ⟨b, 0, none⟩) 2 cap, undef, .pointer (some ⟨w.heap.size, 0, none⟩), .pointer (some ⟨wS.heap.size, 0, none⟩), args.getD 0 undef, u1, .pointer sa, .slice (some ⟨b, 0, none⟩) 2 cap, .func (.func 85) #[] #[.pointer (some ⟨wS.heap.size + 1, 0, none⟩)], args.getD 0 undef, undef, undef, undef, undef, undef, undef, undef], defers := [] }) ?assign ?body ?done ?stop
  case reads =>
    rintro k W ⟨⟨_, h1, _, _⟩, h2⟩
    refine ⟨h1, fun j hj => ?_⟩
    have hb' : b < wS.heap.size := by omega
    rw [h2.cell (p := ⟨b, 0 + j, none⟩) hb', HBS.out.cell (p := ⟨b, 0 + j, none⟩) hb]
    match j, hj with
    | 0, _ => rw [E0.out]; exact HC.out.1
    | 1, _ => rw [E1.out 1 (by omega)]; exact HC.out.2
  case start => exact ⟨⟨by omega, by rw [cell_of_row _ _ _ _ _ _ n1]; rfl, ⟨sa, by rw [cell_of_row _ _ _ _ _ _ n0']; rfl, fun _ => rfl⟩, by simp [World.frozen?, n0']⟩, bL⟩
  case assign =>
    rintro l k args W K rfl hK
    gi_wp2
    exact hK
  case body =>
    rintro l k args W hk ⟨⟨hk1, h1, ⟨a, ha, has⟩, hf⟩, hB⟩ rfl
    by_cases hk0 : k = 0
    · subst hk0
      obtain rfl : a = sa := has rfl
      rw [E0.out]
      have hyW : RatAt W (.pointer ya) neg nn d := (HY.out.below HBS.out).below hB
      have hsW : RatAt W (.pointer a) false 0 1 := HS.out.below hB
      have HV := Lib.hid (c_valid W (.pointer ya) neg nn d hyW)
      have HA := Lib.hid (c_Add W (.pointer a) (.pointer ya) false neg 0 1 nn d hsW hyW (by omega) (nw_small _ (by decide)) (nw_small _ (by decide)) (nw_small _ hn) (nw_small _ hd) (addOk_one _ _ (Nat.lt_of_le_of_lt (sumN_le _ _ _ _) (by simp [Nat.gcd_one_left]; omega)) hd))
      have hlt := lt_of_cell ha
      clear hyW hsW has
      gi_wp2_with (first
        | (refine ⟨trivial, ?_⟩; gi_at_call 42; refine (CallsIn.inRound l (callsIn_wide.2 HV.out)).mono ?_; rintro e w' ⟨rfl, rfl⟩)
        | (refine ⟨trivial, ?_⟩; gi_at_call 16; refine (CallsIn.inRound l (callsIn_wide.2 HA.out)).mono ?_; rintro e wA ⟨u, rfl, hu, hbA⟩; obtain ⟨ua, hua⟩ := rat_ptr hu; subst hua; have cA := (hbA.cell (p := ⟨wS.heap.size, 0, none⟩) hlt).trans ha; have fA := (hbA.frozen (p := ⟨wS.heap.size, 0, none⟩) hlt).trans hf))
      refine ⟨(keeps_of_below hbA).trans (KeepsOthers.setCell _ _ _), ⟨by omega, ?_, ⟨ua, World.cell?_setCell_same' _ _ _ (by rw [cA]; rfl), fun h => absurd h (by omega)⟩, by rw [World.frozen?_setCell]; exact fA⟩, (btr hB (hbA.mono (Nat.le_refl _))).setCell (p := ⟨wS.heap.size, 0, none⟩) (Nat.le_refl _) _⟩
      rw [World.cell?_setCell_other _ _ _ _ (by intro e; injection e with e1; omega), hbA.cell (p := ⟨wS.heap.size + 1, 0, none⟩) (lt_of_cell h1)]
      exact h1
    · obtain rfl : k = 1 := by omega
      rw [E1.out 1 (by omega)]
      have HV := Lib.hid (c_valid_bad W (.pointer xa) ((HX.out.below HBS.out).below hB))
      have hr := (hB.block _ hrl).trans HRS.out
      have rc : W.cell? ⟨w.heap.size, 0, none⟩ = some (.pointer none) := by rw [cell_of_row _ _ _ _ _ _ hr]; rfl
      have rf : W.frozen? ⟨w.heap.size, 0, none⟩ = false := by simp [World.frozen?, hr]
      have hRC := Lib.hid rc
      clear has hr
      gi_wp2_with (first
        | (refine ⟨trivial, ?_⟩; gi_at_call 42; refine (CallsIn.inRound l (callsIn_wide.2 HV.out)).mono ?_; rintro e w' ⟨rfl, rfl⟩))
      exact ⟨KeepsOthers.setCell _ _ _, ⟨rfl, World.cell?_setCell_same' _ _ _ (by rw [hRC.out]; rfl)⟩, (btr HBS.out hB).setCell (p := ⟨w.heap.size, 0, none⟩) (Nat.le_refl _) _⟩
  case done =>
    rintro D W _ ⟨⟨h, _⟩, _⟩ _
    exact absurd h (by omega)
  case stop =>
    rintro D c W hD ⟨⟨rfl, hc⟩, hB⟩ hK
    gi_wp2
    refine ⟨by simp, .inl ⟨_, _, rfl, run_takeDeferred hK, ?_⟩⟩
    have hc5 := cell_kept hc (grownBy_putObj' _ D (.deferred none)) (fun r e => by cases e; exact ⟨_, hK, rfl⟩)
    refine ⟨.pointer none, ?_, rfl, hB.trans (belowK_b (w := w) (Nat.le_refl _) W D _ _ (by omega) hK rfl rfl)⟩
    simp [results, Tryz.results19, go_sem, hc5]
end Go.Proofs.YtfkjfeobhbocjaaGreatDoor
