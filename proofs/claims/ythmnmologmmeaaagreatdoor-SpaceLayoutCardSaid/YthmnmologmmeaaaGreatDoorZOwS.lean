/- The reference's Core, errors and all. -/
import Derived.Test.YthmnmologmmeaaaGreatDoorZRfLg
import Derived.Test.YthmnmologmmeaaaGreatDoorZTwo
import Derived.Test.YthmnmologmmeaaaGreatDoorZChF

/- The reference's Core, errors and all. -/
section
namespace Go.Proofs.YthmnmologmmeaaaGreatDoor
open Go Go.RowKit Go.Deep

theorem r_Core (w : World) (A S O X : Option Addr) (n cap s sc o oc m mc : Nat) (nm : Nat → ByteArray) (lo hi sd ov c : Nat → Int) (ord tile form codec : Int) (hd : DimsAt w A n nm lo hi) (hs : IntsAt w S s sd) (ho : IntsAt w O o ov) (hx : IntsAt w X m c) (hns : ∀ k, k < n → (nm k).size ≤ 9223372036854775807) (hs1 : s ≤ 1000) (ho1 : o ≤ 1000) (hn1 : n ≤ 1000) (hm1 : m ≤ 1000)
    (he : coreE nm lo hi n sd ov s o ord tile form codec c m = 0) :
    Calls Tryz.prog 27 #[.slice A n cap, LayV S s sc O o oc ord tile form codec, .slice X m mc] w fun e w' => ∃ P Q c1 c2, e = .returned (.tuple #[BoxW P Q n c1 n c2, .int .i64 0]) ∧ OwnI w' w.heap.size (.slice P n c1) n (coreLo lo sd c) ∧ OwnI w' w.heap.size (.slice Q n c2) n (coreHi lo hi sd c) ∧ ((Value.slice P n c1).ownBlock = none ∨ (Value.slice P n c1).ownBlock ≠ (Value.slice Q n c2).ownBlock) ∧ Below w.heap.size w w' := by
  obtain ⟨h0, hmn, hc⟩ := core_zero he
  refine (r_Core_all w A S O X n cap s sc o oc m mc nm lo hi sd ov c ord tile form codec hd hs ho hx hns hs1 ho1 hn1 hm1 h0 hmn).mono ?_
  rintro e w' ⟨v1, v2, rfl, h1, h2, h3, _, h4⟩
  rw [hc] at h1 h2 ⊢
  obtain ⟨P, c1, rfl, _⟩ := OwnI.ints (n := n) h1
  obtain ⟨Q, c2, rfl, _⟩ := OwnI.ints (n := n) h2
  exact ⟨P, Q, c1, c2, rfl, h1, h2, h3, h4⟩
theorem r_Core_err (w : World) (A S O X : Option Addr) (n cap s sc o oc m mc : Nat) (nm : Nat → ByteArray) (lo hi sd ov c : Nat → Int) (ord tile form codec : Int) (hd : DimsAt w A n nm lo hi) (hs : IntsAt w S s sd) (ho : IntsAt w O o ov) (hx : IntsAt w X m c) (hns : ∀ k, k < n → (nm k).size ≤ 9223372036854775807) (hs1 : s ≤ 1000) (ho1 : o ≤ 1000) (hn1 : n ≤ 1000) (hm1 : m ≤ 1000)
    (he : coreE nm lo hi n sd ov s o ord tile form codec c m ≠ 0) :
    Calls Tryz.prog 27 #[.slice A n cap, LayV S s sc O o oc ord tile form codec, .slice X m mc] w fun e w' => e = .returned (.tuple #[BoxV none none 0 0 0 0, .int .i64 (coreE nm lo hi n sd ov s o ord tile form codec c m)]) ∧ Below w.heap.size w w' := by
  by_cases h0 : layE nm lo hi n sd ov s o ord tile form codec = 0
  · by_cases hmn : m = n
    · refine (r_Core_all w A S O X n cap s sc o oc m mc nm lo hi sd ov c ord tile form codec hd hs ho hx hns hs1 ho1 hn1 hm1 h0 hmn).mono ?_
      rintro e w' ⟨v1, v2, rfl, _, _, _, h3, h4⟩
      have e1 : coreE nm lo hi n sd ov s o ord tile form codec c m = rangeE (cinTo lo hi sd c n) := by unfold coreE; rw [if_neg (by omega), if_neg (by omega)]
      rw [e1] at he ⊢
      cases hc : cinTo lo hi sd c n
      · obtain ⟨rfl, rfl⟩ := h3 hc
        exact ⟨rfl, h4⟩
      · rw [hc] at he
        exact absurd rfl he
    · have e1 : coreE nm lo hi n sd ov s o ord tile form codec c m = 13 := by unfold coreE; rw [if_neg (by omega), if_pos hmn]
      rw [e1]
      exact r_Core_len w A S O X n cap s sc o oc m mc nm lo hi sd ov c ord tile form codec hd hs ho hx hns hs1 ho1 hn1 hm1 h0 hmn
  · have e1 : coreE nm lo hi n sd ov s o ord tile form codec c m = layE nm lo hi n sd ov s o ord tile form codec := by unfold coreE; rw [if_pos h0]
    rw [e1]
    exact r_Core_lay w A S O X n cap s sc o oc m mc nm lo hi sd ov c ord tile form codec hd hs ho hx hns hs1 ho1 hn1 hm1 h0
end Go.Proofs.YthmnmologmmeaaaGreatDoor
end

/- The reference's Wide where its Core is in error. -/
section
namespace Go.Proofs.YthmnmologmmeaaaGreatDoor
open Go Go.RowKit Go.Deep

set_option maxRecDepth 100000 in
set_option maxHeartbeats 4000000 in
theorem r_Wide_err (w : World) (A S O X : Option Addr) (n cap s sc o oc m mc : Nat) (ord tile form codec : Int)
    (E : Int) (he : E ≠ 0) (hC : ∀ W, Below w.heap.size w W → Calls Tryz.prog 27 #[.slice A n cap, LayV S s sc O o oc ord tile form codec, .slice X m mc] W fun e w' => e = .returned (.tuple #[BoxV none none 0 0 0 0, .int .i64 E]) ∧ Below W.heap.size W w') :
    Calls Tryz.prog 29 #[.slice A n cap, LayV S s sc O o oc ord tile form codec, .slice X m mc] w fun e w' => e = .returned (.tuple #[BoxV none none 0 0 0 0, .int .i64 E]) ∧ Below w.heap.size w w' := by
  have KB := Lib.hid (lay_box w S O s sc o oc ord tile form codec)
  have HB : Hid (Below w.heap.size w (w.alloc (.cells #[.slice S s sc, .slice O o oc, .int .i64 ord, .int .i64 tile, .int .i64 form, .int .i64 codec] 54))) := (Below.refl _ _).alloc (Nat.le_refl _) _
  have HC := Lib.hid hC
  clear hC
  go_enter Tryz.func29, Tryz.ntmps29
  go_wp2_with fail
  have hz0 : ((w.alloc (.cells #[.slice S s sc, .slice O o oc, .int .i64 ord, .int .i64 tile, .int .i64 form, .int .i64 codec] 54)).alloc (.cells #[.slice none 0 0, .slice none 0 0] 66)).heap.size = w.heap.size + 2 := by simp
  have KB2 : Hid (∀ W, Below (w.heap.size + 2) ((w.alloc (.cells #[.slice S s sc, .slice O o oc, .int .i64 ord, .int .i64 tile, .int .i64 form, .int .i64 codec] 54)).alloc (.cells #[.slice none 0 0, .slice none 0 0] 66)) W → W.heap[w.heap.size + 1]? = some (.cells #[.slice none 0 0, .slice none 0 0] 66 (0, 0))) := fun W hW => by
    have h9 := heap_alloc_new (w.alloc (.cells #[.slice S s sc, .slice O o oc, .int .i64 ord, .int .i64 tile, .int .i64 form, .int .i64 codec] 54)) (.cells #[.slice none 0 0, .slice none 0 0] 66)
    rw [World.size_alloc] at h9
    exact (hW.block _ (by omega)).trans h9
  have HB2 : Hid (Below w.heap.size w ((w.alloc (.cells #[.slice S s sc, .slice O o oc, .int .i64 ord, .int .i64 tile, .int .i64 form, .int .i64 codec] 54)).alloc (.cells #[.slice none 0 0, .slice none 0 0] 66))) := HB.out.alloc (by simp) _
  clear KB HB
  generalize (w.alloc (.cells #[.slice S s sc, .slice O o oc, .int .i64 ord, .int .i64 tile, .int .i64 form, .int .i64 codec] 54)).alloc (.cells #[.slice none 0 0, .slice none 0 0] 66) = W0 at *
  refine (HC.out _ HB2.out).mono ?_
  rintro e w1 ⟨rfl, hb1⟩
  have HB1 : Hid (Below w.heap.size w w1) := st HB2.out hb1
  have HB01 : Hid (Below (w.heap.size + 2) W0 w1) := by show Below _ _ _; rw [← hz0]; exact hb1
  have hz1 : w.heap.size + 2 ≤ w1.heap.size := by rw [← hz0]; exact hb1.size
  have HB21 : Hid (Below (w.heap.size + 2) W0 (w1.alloc (.cells #[.slice none 0 0, .slice none 0 0] 66))) := HB01.out.alloc hz1 _
  have HBX : Hid (Below w.heap.size w (w1.alloc (.cells #[.slice none 0 0, .slice none 0 0] 66))) := HB1.out.alloc (by omega) _
  have hres := KB2.out _ HB21.out
  obtain ⟨r0, r9, z0, z1⟩ := box_at hres
  clear hb1 HC
  have h1 : (E != 0) = true := by rw [bne_iff_ne]; exact he
  clear he
  go_wp2
  refine bodyPost_ret (v := .tuple #[BoxV none none 0 0 0 0, .int .i64 E]) (res_cell_tmp Tryz.results29 _ _ (w.heap.size + 1) 66 _ (0, 0) _ rfl (put2 hres _ _) Tryz.underlying66 rfl (by rw [info_box]; rfl)) rfl ?_
  exact ⟨rfl, (HBX.out.setCell (p := ⟨w.heap.size + 1, 0, none⟩) (by show w.heap.size ≤ w.heap.size + 1; omega) _).setCell (p := ⟨w.heap.size + 1, 1, none⟩) (by show w.heap.size ≤ w.heap.size + 1; omega) _⟩
end Go.Proofs.YthmnmologmmeaaaGreatDoor
end

/- A number of the walk's own list is set. -/
section
namespace Go.Proofs.YthmnmologmmeaaaGreatDoor
open Go Go.RowKit Go.Deep

theorem OwnI.own {w : World} {B n : Nat} {v : Value} {f : Nat → Int} (h : OwnI w B v n f) (hn : 0 < n) : ∃ g c, v = .slice (some ⟨g, 0, none⟩) n c ∧ B ≤ g ∧ g < w.heap.size ∧ (∀ k, k < n → w.cell? ⟨g, k, none⟩ = some (.int .i64 (f k))) ∧ ∀ k, w.frozen? ⟨g, k, none⟩ = false := by
  obtain ⟨xs, ⟨hl, h1⟩, h2⟩ := h
  rcases h1 with ⟨rfl, rfl⟩ | ⟨g, cap, cur, rfl, hB, hh, hcap, _, hs, ht⟩
  · simp at hl; omega
  · refine ⟨g, cap, rfl, hB, (Array.getElem?_eq_some_iff.1 hh).1, fun k hk => ?_, fun k => by simp [World.frozen?, hh]⟩
    rw [Nat.mul_one] at ht
    have h3 : cur.toList[k]? = some (.int .i64 (f k)) := by
      rw [← List.getElem?_take_of_lt hk, ht]
      exact h2 k hk
    rw [Array.getElem?_toList] at h3
    simp [World.cell?, hh, h3]
theorem OwnI.set {w : World} {B n g c : Nat} {f : Nat → Int} (h : OwnI w B (.slice (some ⟨g, 0, none⟩) n c) n f) (k : Nat) (hk : k < n) (x : Int) : OwnI (w.setCell ⟨g, k, none⟩ (.int .i64 x)) B (.slice (some ⟨g, 0, none⟩) n c) n (updZ f k x) := by
  obtain ⟨xs, ⟨hl, h1⟩, h2⟩ := h
  rcases h1 with ⟨e, rfl⟩ | ⟨g', cap, cur, e, hB, hh, hcap, hm, hs, ht⟩
  · injection e with _ e; omega
  · injection e with e1 e2 e3
    injection e1 with e1
    injection e1 with e1
    subst e1 e3
    refine ⟨xs.set k (.int .i64 x), ⟨by simpa using hl, .inr ⟨g, c, cur.set! k (.int .i64 x), rfl, hB, by simp [World.setCell, Array.getElem?_modify, hh], hcap, hm, by simpa using hs, ?_⟩⟩, fun j hj => ?_⟩
    · rw [Nat.mul_one] at ht ⊢
      rw [← ht, Array.set!_eq_setIfInBounds, Array.toList_setIfInBounds, List.take_set]
    · unfold updZ
      rw [Nat.mul_one] at hl
      by_cases e : j = k
      · subst e
        rw [if_pos rfl, List.getElem?_set_self (by omega)]
      · rw [if_neg e, List.getElem?_set_ne (by omega)]
        exact h2 j hj
end Go.Proofs.YthmnmologmmeaaaGreatDoor
end
