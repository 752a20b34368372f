/- The reference's naturals of integers. -/
import Derived.Test.YtnfncdalneifnaaGreatDoorZRef9
import Derived.Test.YtnfncdalneifnaaGreatDoorZRefC9
import Derived.Test.YtnfncdalneifnaaGreatDoorZInv
import Derived.Test.YtnfncdalneifnaaGreatDoorZRdV
import Derived.Deep.RegionHeld3
import Derived.BigQuiet

/- The reference's naturals of integers. -/
section
namespace Go.Proofs.YtnfncdalneifnaaGreatDoor
open Go.RowKit Go.Deep

set_option maxHeartbeats 1000000 in
theorem r_size (w : World) (n : Int) (h0 : -9223372036854775808 ≤ n) (h1 : n ≤ 9223372036854775807) :
    Calls Tryz.prog 67 #[.int .i64 n] w (Nat9 n.natAbs w) := by
  have HN := Lib.hid (r_natural w n.natAbs (by unfold W64; omega))
  by_cases h : n < 0
  · have e1 : IntKind.u64.wrap (-IntKind.u64.wrap n) = (n.natAbs : Int) := nat_abs_u64 n h0 h
    have E1 := Lib.hid e1
    clear e1
    go_enter Tryz.func67, Tryz.ntmps67
    go_wp2_with fail
    first | rw [E1.out] | (rw [show Value.int .u64 n = Value.int .u64 (n.natAbs : Int) from congrArg _ E1.out])
    refine HN.out.mono ?_
    rintro e w1 ⟨v, rfl, hv, hb⟩
    have HV := Lib.hid hv
    obtain ⟨A, c, rfl⟩ := hv.sl
    go_wp2
    go_ret
    exact ⟨_, rfl, HV.out, hb⟩
  · have E1 : Hid (n = (n.natAbs : Int)) := by show _ = _; omega
    go_enter Tryz.func67, Tryz.ntmps67
    go_wp2_with fail
    first | rw [E1.out] | (rw [show Value.int .u64 n = Value.int .u64 (n.natAbs : Int) from congrArg _ E1.out])
    refine HN.out.mono ?_
    rintro e w1 ⟨v, rfl, hv, hb⟩
    have HV := Lib.hid hv
    obtain ⟨A, c, rfl⟩ := hv.sl
    go_wp2
    go_ret
    exact ⟨_, rfl, HV.out, hb⟩

end Go.Proofs.YtnfncdalneifnaaGreatDoor
end

/- The reference's Check, whatever the value. -/
section
namespace Go.Proofs.YtnfncdalneifnaaGreatDoor
open Go.RowKit Go.Deep

set_option maxRecDepth 100000 in
set_option maxHeartbeats 4000000 in
theorem r_Check0 (n d : Int) (s : ByteArray) (w : World) :
    Calls Tryz.prog 28 #[V 0 n d s] w fun e w' => e = .returned (.int .i64 (errB (okB 0 n d s))) ∧ Below w.heap.size w w' := by
  have hE : errB (okB 0 n d s) = errB (decide (d = 0 ∧ s.toList = [] ∧ 1 ≤ n ∧ n ≤ 255)) := by congr 1
  rw [hE]
  clear hE
  generalize hE : errB (decide (d = 0 ∧ s.toList = [] ∧ 1 ≤ n ∧ n ≤ 255)) = E
  have h9 : (1 ≤ n ∧ n ≤ 255 ∧ d = 0 ∧ s.toList = []) ∨ ¬ 1 ≤ n ∨ (1 ≤ n ∧ ¬ n ≤ 255) ∨ (1 ≤ n ∧ n ≤ 255 ∧ ¬ d = 0) ∨ (1 ≤ n ∧ n ≤ 255 ∧ d = 0 ∧ ¬ s.toList = []) := by
    by_cases h1 : 1 ≤ n <;> by_cases h2 : n ≤ 255 <;> by_cases h3 : d = 0 <;> by_cases h4 : s.toList = [] <;> simp [h1, h2, h3, h4]
  rcases h9 with ⟨h1, h2, rfl, h4⟩ | h1 | ⟨h1, h2⟩ | ⟨h1, h2, h3⟩ | ⟨h1, h2, rfl, h4⟩
  · have HR : Hid (E = 0) := by show _ = _; rw [← hE]; simp [errB, h1, h2, h4]
    clear hE
    go_enter Tryz.func28, Tryz.ntmps28
    go_wp2
    go_ret
    exact ⟨by rw [HR.out]; rfl, (Below.refl _ _).alloc (Nat.le_refl _) _⟩
  all_goals
    have HR : Hid (E = 2) := by
      show _ = _; rw [← hE]
      first
      | simp [errB, h1, h2, h4]
      | simp [errB, h1, h2, h3]
      | (simp only [errB]; rw [if_neg]; simp; omega)
      | (simp [errB]; omega)
    try (have h5 : (d == 0) = false := by rw [beq_eq_false_iff_ne]; exact h3)
    try (have h8 : s.toList.isEmpty = false := by rw [List.isEmpty_eq_false_iff]; exact h4)
    clear hE
    go_enter Tryz.func28, Tryz.ntmps28
    go_wp2
    go_ret
    exact ⟨by rw [HR.out]; rfl, (Below.refl _ _).alloc (Nat.le_refl _) _⟩

set_option maxRecDepth 100000 in
set_option maxHeartbeats 4000000 in
theorem r_Check1 (n d : Int) (s : ByteArray) (w : World) :
    Calls Tryz.prog 28 #[V 1 n d s] w fun e w' => e = .returned (.int .i64 (errB (okB 1 n d s))) ∧ Below w.heap.size w w' := by
  have hE : errB (okB 1 n d s) = errB (decide ((n = 0 ∨ n = 1) ∧ d = 0 ∧ s.toList = [])) := by congr 1
  rw [hE]
  clear hE
  generalize hE : errB (decide ((n = 0 ∨ n = 1) ∧ d = 0 ∧ s.toList = [])) = E
  have h9 : (n = 0 ∧ d = 0 ∧ s.toList = []) ∨ (n = 1 ∧ d = 0 ∧ s.toList = []) ∨ (¬ n = 0 ∧ ¬ n = 1) ∨ (n = 0 ∧ ¬ d = 0) ∨ (n = 1 ∧ ¬ d = 0) ∨ (n = 0 ∧ d = 0 ∧ ¬ s.toList = []) ∨ (n = 1 ∧ d = 0 ∧ ¬ s.toList = []) := by
    by_cases h1 : n = 0 <;> by_cases h2 : n = 1 <;> by_cases h3 : d = 0 <;> by_cases h4 : s.toList = [] <;> simp [h1, h2, h3, h4] <;> omega
  rcases h9 with ⟨rfl, rfl, h4⟩ | ⟨rfl, rfl, h4⟩ | ⟨h1, h2⟩ | ⟨rfl, h3⟩ | ⟨rfl, h3⟩ | ⟨rfl, rfl, h4⟩ | ⟨rfl, rfl, h4⟩
  iterate 2
    · have HR : Hid (E = 0) := by show _ = _; rw [← hE]; simp [errB, h4]
      clear hE
      go_enter Tryz.func28, Tryz.ntmps28
      go_wp2
      go_ret
      exact ⟨by rw [HR.out]; rfl, (Below.refl _ _).alloc (Nat.le_refl _) _⟩
  all_goals
    have HR : Hid (E = 2) := by
      show _ = _; rw [← hE]
      first
      | simp [errB, h1, h2]
      | simp [errB, h4]
      | simp [errB, h3]
    try (have h5 : (d == 0) = false := by rw [beq_eq_false_iff_ne]; exact h3)
    try (have h6 : (n == 0) = false := by rw [beq_eq_false_iff_ne]; exact h1)
    try (have h7 : (n == 1) = false := by rw [beq_eq_false_iff_ne]; exact h2)
    try (have h8 : s.toList.isEmpty = false := by rw [List.isEmpty_eq_false_iff]; exact h4)
    clear hE
    go_enter Tryz.func28, Tryz.ntmps28
    go_wp2
    go_ret
    exact ⟨by rw [HR.out]; rfl, (Below.refl _ _).alloc (Nat.le_refl _) _⟩

set_option maxRecDepth 100000 in
set_option maxHeartbeats 4000000 in
theorem r_CheckX (k n d : Int) (s : ByteArray) (w : World) (g0 : ¬ k = 0) (g1 : ¬ k = 1) (g2 : ¬ k = 2) (g3 : ¬ k = 3) :
    Calls Tryz.prog 28 #[V k n d s] w fun e w' => e = .returned (.int .i64 (errB (okB k n d s))) ∧ Below w.heap.size w w' := by
  have HR : Hid (errB (okB k n d s) = 2) := by show _ = _; simp [okB, errB, g0, g1, g2, g3]
  have e0 : (k == 0) = false := by rw [beq_eq_false_iff_ne]; exact g0
  have e1 : (k == 1) = false := by rw [beq_eq_false_iff_ne]; exact g1
  have e2 : (k == 2) = false := by rw [beq_eq_false_iff_ne]; exact g2
  have e3 : (k == 3) = false := by rw [beq_eq_false_iff_ne]; exact g3
  go_enter Tryz.func28, Tryz.ntmps28
  go_wp2
  go_ret
  exact ⟨by rw [HR.out]; rfl, (Below.refl _ _).alloc (Nat.le_refl _) _⟩

def geC (c x : Int) : Bool := decide (c ≤ x)
theorem sz_a (n : Int) (h0 : -1099511627776 ≤ n) (h1 : n ≤ 1099511627776) : nw9 n.natAbs ≤ 100000000 := by
  have h2 : n.natAbs < B9 ^ 2 := by unfold B9; omega
  have := (nw_le9 _ _).2 h2
  omega
set_option maxRecDepth 100000 in
set_option maxHeartbeats 4000000 in
theorem r_Check2 (n d : Int) (s : ByteArray) (w : World) :
    Calls Tryz.prog 28 #[V 2 n d s] w fun e w' => e = .returned (.int .i64 (errB (okB 2 n d s))) ∧ Below w.heap.size w w' := by
  have hE : errB (okB 2 n d s) = errB (decide (s.toList = [] ∧ Low n d)) := by congr 1
  rw [hE]
  clear hE
  generalize hE : errB (decide (s.toList = [] ∧ Low n d)) = E
  have h9 : (1 ≤ d ∧ d ≤ 1099511627776 ∧ -1099511627776 ≤ n ∧ n ≤ 1099511627776 ∧ s.toList = []) ∨ ¬ 1 ≤ d ∨ (1 ≤ d ∧ ¬ d ≤ 1099511627776) ∨ (1 ≤ d ∧ d ≤ 1099511627776 ∧ ¬ -1099511627776 ≤ n) ∨ (1 ≤ d ∧ d ≤ 1099511627776 ∧ -1099511627776 ≤ n ∧ ¬ n ≤ 1099511627776) ∨
      (1 ≤ d ∧ d ≤ 1099511627776 ∧ -1099511627776 ≤ n ∧ n ≤ 1099511627776 ∧ ¬ s.toList = []) := by
    by_cases h4 : s.toList = [] <;> simp [h4] <;> omega
  rcases h9 with ⟨h1, h2, h3, h4, h5⟩ | h1 | ⟨h1, h2⟩ | ⟨h1, h2, h3⟩ | ⟨h1, h2, h3, h4⟩ | ⟨h1, h2, h3, h4, h5⟩
  · have hE2 : E = errB (isOneB (Nat.gcd n.natAbs d.natAbs)) := by
      rw [← hE]
      congr 1
      unfold Low isOneB
      simp [h1, h2, h3, h4, h5]
      rw [Bool.eq_iff_iff]; simp
    have HE2 := Lib.hid hE2
    have HC1 := Lib.hid (cmp_one (Nat.gcd n.natAbs d.natAbs))
    have HSn := Lib.hid (fun W => r_size W n (by omega) (by omega))
    have HSd := Lib.hid (fun W => r_size W d (by omega) (by omega))
    have HNn := Lib.hid (sz_a n h3 h4)
    have HNd := Lib.hid (sz_a d (by omega) h2)
    obtain ⟨W, b, hW, hb, hlt, hbel, K⟩ := box_facts w 2 n d s
    have HBel := Lib.hid hbel
    have KK : Hid (∀ W', Below W.heap.size W W' → W'.cell? ⟨w.heap.size, 0, none⟩ = some (.int .i64 2) ∧ W'.cell? ⟨w.heap.size, 1, none⟩ = some (.int .i64 n) ∧ W'.cell? ⟨w.heap.size, 2, none⟩ = some (.int .i64 d) ∧ W'.cell? ⟨w.heap.size, 3, none⟩ = some (.string s)) := by
      rw [hb]; exact K.out
    clear hE hE2 K hb hlt hbel
    go_enter Tryz.func28, Tryz.ntmps28
    obtain ⟨k0, k1, k2, k3⟩ := KK.out W (Below.refl _ _)
    go_wp2_with fail
    have B0d : Below W.heap.size W W.drew := Below.drew (Below.refl _ _)
    clear k0 k1 k2 k3
    go_region_held3 (fun w' => w'.cell? ⟨w.heap.size, 0, none⟩ = some (.int .i64 2) ∧ w'.cell? ⟨w.heap.size, 1, none⟩ = some (.int .i64 n) ∧ w'.cell? ⟨w.heap.size, 2, none⟩ = some (.int .i64 d) ∧ w'.cell? ⟨w.heap.size, 3, none⟩ = some (.string s))
      (first | exact KK.out _ B5 | exact KK.out _ B4 | exact KK.out _ B3 | exact KK.out _ B2 | exact KK.out _ B1 | exact KK.out _ B0d | exact KK.out _ (Below.refl _ _))
      (first
        | (go_at_call_of 67 (Value.int IntKind.i64 n); refine (HSn.out _).mono ?_; rintro e w1 ⟨v1, rfl, hv1, hb1⟩; have B1 : Below W.heap.size W w1 := btr B0d hb1)
        | (go_at_call_of 67 (Value.int IntKind.i64 d); refine (HSd.out _).mono ?_; rintro e w2 ⟨v2, rfl, hv2, hb2⟩; have B2 : Below W.heap.size W w2 := btr B1 hb2)
        | (go_at_call 66; refine (r_common _ v1 v2 _ _ (hv1.below hb2) hv2 HNn.out HNd.out).mono ?_; rintro e w3 ⟨v3, rfl, hv3, hb3⟩; have B3 : Below W.heap.size W w3 := btr B2 hb3)
        | (go_at_call 68; refine (r_one _).mono ?_; rintro e w4 ⟨v4, rfl, hv4, hb4⟩; have B4 : Below W.heap.size W w4 := btr B3 hb4)
        | (go_at_call 65; refine (r_cmpN _ v3 v4 _ 1 (hv3.below hb4) hv4).mono ?_; rintro e w5 ⟨rfl, nd, rfl⟩; have B5 : Below W.heap.size W (w4.drewN nd) := below_drewN B4 nd))
    all_goals
      have HB5 := Lib.hid (btr HBel.out B5)
      rw [HC1.out]
      clear hv1 hv2 hv3 hv4 hb1 hb2 hb3 hb4 B1 B2 B3 B4 B5 B0d
      generalize w4.drewN nd = w5 at *
      generalize isOneB (Nat.gcd n.natAbs d.natAbs) = ob at *
      cases ob
      all_goals
        go_wp2
        go_ret
        exact ⟨by rw [HE2.out]; rfl, HB5.out⟩
  all_goals
    have HR : Hid (E = 2) := by
      show _ = _; rw [← hE]
      first
      | simp [errB, h5]
      | (have h9 : ¬ Low n d := fun h => by
           obtain ⟨a1, a2, a3, a4, a5⟩ := h
           omega
         simp [errB, h9])
    try (have h8 : s.toList.isEmpty = false := by rw [List.isEmpty_eq_false_iff]; exact h5)
    clear hE
    have r1 : ∀ c, decide (c ≤ d) = geC c d := fun _ => rfl
    have r2 : ∀ c, decide (d ≤ c) = geC d c := fun _ => rfl
    have r3 : ∀ c, decide (c ≤ n) = geC c n := fun _ => rfl
    have r4 : ∀ c, decide (n ≤ c) = geC n c := fun _ => rfl
    first
    | (have a1 : geC 1 d = false := decide_eq_false h1; clear h1)
    | (have a1 : geC 1 d = true := decide_eq_true h1; clear h1)
    try first
    | (have a2 : geC d 1099511627776 = false := decide_eq_false h2; clear h2)
    | (have a2 : geC d 1099511627776 = true := decide_eq_true h2; clear h2)
    try first
    | (have a3 : geC (-1099511627776) n = false := decide_eq_false h3; clear h3)
    | (have a3 : geC (-1099511627776) n = true := decide_eq_true h3; clear h3)
    try first
    | (have a4 : geC n 1099511627776 = false := decide_eq_false h4; clear h4)
    | (have a4 : geC n 1099511627776 = true := decide_eq_true h4; clear h4)
    obtain ⟨W, b, hW, hb, hlt, hbel, K⟩ := box_facts w 2 n d s
    have HBel := Lib.hid hbel
    obtain ⟨k0, k1, k2, k3⟩ := K.out W (Below.refl _ _)
    rw [← hb] at k0 k1 k2 k3
    clear K hb hlt hbel
    go_enter Tryz.func28, Tryz.ntmps28
    go_wp2_with fail
    go_quiet (fail)
    go_wp2
    go_ret
    exact ⟨by rw [HR.out]; rfl, below_drewN HBel.out _⟩
end Go.Proofs.YtnfncdalneifnaaGreatDoor
end

/- The reference's Check of texts, and of whatever value. -/
section
namespace Go.Proofs.YtnfncdalneifnaaGreatDoor
open Go.RowKit Go.Deep

/-- Are the first k bytes those of a text? -/
def txtTo (s : ByteArray) (k : Nat) : Bool := (List.range k).all fun i => decide (32 ≤ ((s.data.toList[i]?.getD 0).toNat : Int)) && decide (((s.data.toList[i]?.getD 0).toNat : Int) ≤ 126)
theorem txtTo_succ (s : ByteArray) (k : Nat) (h : k < s.size) : txtTo s (k + 1) = (txtTo s k && (decide (32 ≤ (s[k].toNat : Int)) && decide ((s[k].toNat : Int) ≤ 126))) := by
  unfold txtTo
  rw [List.range_succ, List.all_append]
  have e : s.data.toList[k]?.getD 0 = s[k] := by
    rw [Array.getElem?_toList, Array.getElem?_eq_getElem h]
    rfl
  simp only [List.all_cons, List.all_nil, Bool.and_true, e]
theorem txtTo_all (s : ByteArray) : decide (Txt s) = (decide (s.size ≤ 16) && txtTo s s.size) := by
  have e : ∀ i (hi : i < s.size), s.data.toList[i]?.getD 0 = s[i] := fun i hi => by
    rw [Array.getElem?_toList, Array.getElem?_eq_getElem hi]
    rfl
  have h1 : Txt s ↔ (decide (s.size ≤ 16) && txtTo s s.size) = true := by
    simp only [decide_eq_true_eq, Bool.and_eq_true, txtTo, List.all_eq_true, List.mem_range]
    constructor
    · rintro ⟨a, b⟩
      exact ⟨a, fun i hi => by rw [e i hi]; exact b i hi⟩
    · rintro ⟨a, b⟩
      refine ⟨a, fun i hi => ?_⟩
      have h9 := b i hi
      rw [e i hi] at h9
      exact h9
  rcases hb : (decide (s.size ≤ 16) && txtTo s s.size) with _ | _
  · exact decide_eq_false fun h => by rw [h1, hb] at h; cases h
  · exact decide_eq_true (h1.2 hb)

set_option maxRecDepth 100000 in
set_option maxHeartbeats 4000000 in
theorem r_Check3 (n d : Int) (s : ByteArray) (w : World) (hs : s.size ≤ 9223372036854775807) :
    Calls Tryz.prog 28 #[V 3 n d s] w fun e w' => e = .returned (.int .i64 (errB (okB 3 n d s))) ∧ Below w.heap.size w w' := by
  have hE : errB (okB 3 n d s) = errB (((n == 0) && (d == 0) && decide (s.size ≤ 16)) && txtTo s s.size) := by
    congr 1
    have h1 : okB 3 n d s = decide (n = 0 ∧ d = 0 ∧ Txt s) := rfl
    rw [h1, Bool.and_assoc, ← txtTo_all, Bool.eq_iff_iff]
    simp [and_assoc]
  rw [hE]
  clear hE
  obtain ⟨W, b, hW, hb, hlt, hbel, K⟩ := box_facts w 3 n d s
  have HBel := Lib.hid hbel
  have KK : Hid (∀ W', Below W.heap.size W W' → W'.cell? ⟨w.heap.size, 0, none⟩ = some (.int .i64 3) ∧ W'.cell? ⟨w.heap.size, 1, none⟩ = some (.int .i64 n) ∧ W'.cell? ⟨w.heap.size, 2, none⟩ = some (.int .i64 d) ∧ W'.cell? ⟨w.heap.size, 3, none⟩ = some (.string s)) := by
    rw [hb]; exact K.out
  clear K hb hlt hbel
  obtain ⟨k0, k1, k2, k3⟩ := KK.out W (Below.refl _ _)
  have h9 : (n = 0 ∧ d = 0 ∧ s.size ≤ 16) ∨ ¬ n = 0 ∨ (n = 0 ∧ ¬ d = 0) ∨ (n = 0 ∧ d = 0 ∧ ¬ s.size ≤ 16) := by omega
  obtain ⟨c0, hc0⟩ : ∃ c0, ((n == 0) && (d == 0) && decide (s.size ≤ 16)) = c0 := ⟨_, rfl⟩
  rw [hc0]
  have HS := Lib.hid hs
  clear hs
  rcases h9 with ⟨rfl, rfl, h3⟩ | h1 | ⟨rfl, h2⟩ | ⟨rfl, rfl, h3⟩
  all_goals
    first
    | (have hcv : c0 = true := by rw [← hc0]; simp [h3])
    | (have hcv : c0 = false := by rw [← hc0]; simp [h1])
    | (have hcv : c0 = false := by rw [← hc0]; simp [h2])
    | (have hcv : c0 = false := by rw [← hc0]; simp [h3])
    clear hc0
    obtain ⟨cc, hcc⟩ : ∃ cc, cc = c0 := ⟨_, rfl⟩
    rw [← hcc]
    have HCV := Lib.hid (hcc.trans hcv)
    clear hcc hcv
    generalize hEE : errB (cc && txtTo s s.size) = E
    have HEE := Lib.hid hEE
    clear hEE
    try (have h1' : (n == 0) = false := by rw [beq_eq_false_iff_ne]; exact h1)
    try (have h2' : (d == 0) = false := by rw [beq_eq_false_iff_ne]; exact h2)
    have r0 : ∀ c, decide ((s.size : Int) ≤ c) = geC s.size c := fun _ => rfl
    try first
    | (have a0 : geC s.size 16 = true := decide_eq_true (by omega : (s.size : Int) ≤ 16))
    | (have a0 : geC s.size 16 = false := decide_eq_false (by omega : ¬ (s.size : Int) ≤ 16))
    try clear h3
    go_enter Tryz.func28, Tryz.ntmps28
    go_wp2_with fail
    clear k0 k1 k2 k3
    go_loopw [3, 4] (fun is i wr => ∃ (k : Nat) (c : Bool), k ≤ s.size ∧ i = .int .i64 k ∧ is = .bool c ∧ Hid (c = (cc && txtTo s k)) ∧ ∃ nd, wr = W.drewN nd) (fun _ i _ => s.size - (intOf i).toNat)
    case atStart => exact ⟨0, _, Nat.zero_le _, rfl, rfl, by show _ = _; rw [HCV.out]; simp [txtTo], 0, rfl⟩
    case round =>
      obtain ⟨k, c, hk, rfl, rfl, HC, nd, rfl⟩ := hrel
      have HBd : Hid (Below W.heap.size W (W.drewN nd)) := below_drewN (Below.refl _ _) nd
      obtain ⟨k0, k1, k2, k3⟩ := KK.out _ HBd.out
      by_cases hlt : k < s.size
      · have HStep := Lib.hid (txtTo_succ s k hlt)
        have hkk : k < 9223372036854775807 := by have := HS.out; omega
        have r5 : ∀ c, decide (c ≤ (s[k].toNat : Int)) = geC c s[k].toNat := fun _ => rfl
        have r6 : ∀ c, decide ((s[k].toNat : Int) ≤ c) = geC s[k].toNat c := fun _ => rfl
        have h9 : c = false ∨ (c = true ∧ geC 32 s[k].toNat = false) ∨ (c = true ∧ geC 32 s[k].toNat = true ∧ geC s[k].toNat 126 = false) ∨ (c = true ∧ geC 32 s[k].toNat = true ∧ geC s[k].toNat 126 = true) := by
          cases c <;> cases geC 32 s[k].toNat <;> cases geC s[k].toNat 126 <;> simp
        rcases h9 with rfl | ⟨rfl, g1⟩ | ⟨rfl, g1, g2⟩ | ⟨rfl, g1, g2⟩
        all_goals
          go_wp2
          go_roundw
          case rel =>
            refine ⟨k + 1, _, by omega, by go_num, rfl, ?_, nd, rfl⟩
            show _ = _
            rw [HStep.out, ← Bool.and_assoc, ← HC.out]
            first
            | rfl
            | (show _ = (true && (geC 32 s[k].toNat && geC s[k].toNat 126)); simp [g1, g2])
            | (show _ = (true && (geC 32 s[k].toNat && geC s[k].toNat 126)); simp [g1])
            | simp
          case measure => simp [intOf]; omega
      · obtain rfl : k = s.size := by omega
        have HCe := HC.out
        have hE9 := HEE.out
        rw [← HCe] at hE9
        have HE9 := Lib.hid hE9
        clear HC HCe hE9
        cases c
        all_goals
          go_wp2
          go_ret
          exact ⟨by rw [← HE9.out]; rfl, btr HBel.out HBd.out⟩

theorem r_Check (k n d : Int) (s : ByteArray) (w : World) (hs : s.size ≤ 9223372036854775807) :
    Calls Tryz.prog 28 #[V k n d s] w fun e w' => e = .returned (.int .i64 (errB (okB k n d s))) ∧ Below w.heap.size w w' := by
  by_cases h0 : k = 0
  · subst h0; exact r_Check0 n d s w
  by_cases h1 : k = 1
  · subst h1; exact r_Check1 n d s w
  by_cases h2 : k = 2
  · subst h2; exact r_Check2 n d s w
  by_cases h3 : k = 3
  · subst h3; exact r_Check3 n d s w hs
  exact r_CheckX k n d s w h0 h1 h2 h3
end Go.Proofs.YtnfncdalneifnaaGreatDoor
end

/- The reference's sums of two numbers. -/
section
namespace Go.Proofs.YtnfncdalneifnaaGreatDoor
open Go.RowKit Go.Deep

/-- The three parts of a sum that is reduced once. -/
theorem ref_add (p q : Rat) : sgn (sumS (decide (p.num < 0)) (p.num.natAbs * q.den) (decide (q.num < 0)) (q.num.natAbs * p.den))
      (sumN (decide (p.num < 0)) (p.num.natAbs * q.den) (decide (q.num < 0)) (q.num.natAbs * p.den) / Nat.gcd (sumN (decide (p.num < 0)) (p.num.natAbs * q.den) (decide (q.num < 0)) (q.num.natAbs * p.den)) (p.den * q.den)) = decide ((p + q).num < 0) ∧
    sumN (decide (p.num < 0)) (p.num.natAbs * q.den) (decide (q.num < 0)) (q.num.natAbs * p.den) / Nat.gcd (sumN (decide (p.num < 0)) (p.num.natAbs * q.den) (decide (q.num < 0)) (q.num.natAbs * p.den)) (p.den * q.den) = (p + q).num.natAbs ∧
    p.den * q.den / Nat.gcd (sumN (decide (p.num < 0)) (p.num.natAbs * q.den) (decide (q.num < 0)) (q.num.natAbs * p.den)) (p.den * q.den) = (p + q).den := by
  have hM : sInt (decide (p.num < 0)) (p.num.natAbs * q.den) + sInt (decide (q.num < 0)) (q.num.natAbs * p.den) = p.num * q.den + q.num * p.den := by
    rw [sInt_mul, sInt_mul, sInt_of, sInt_of]
  have hN := sumN_int (decide (p.num < 0)) (decide (q.num < 0)) (p.num.natAbs * q.den) (q.num.natAbs * p.den)
  have hs := sgn_sum (decide (p.num < 0)) (decide (q.num < 0)) (p.num.natAbs * q.den) (q.num.natAbs * p.den)
  rw [hM] at hN hs
  have hD : 0 < p.den * q.den := Nat.mul_pos p.den_pos q.den_pos
  have hadd := Rat.add_def p q
  rw [Rat.normalize_eq] at hadd
  have en : (p + q).num = (p.num * (q.den : Int) + q.num * (p.den : Int)) / ((Nat.gcd (p.num * (q.den : Int) + q.num * (p.den : Int)).natAbs (p.den * q.den) : Nat) : Int) := by rw [hadd]
  have ed : (p + q).den = p.den * q.den / Nat.gcd (p.num * (q.den : Int) + q.num * (p.den : Int)).natAbs (p.den * q.den) := by rw [hadd]
  rw [en, ed]
  clear hadd en ed
  generalize sumS (decide (p.num < 0)) (p.num.natAbs * q.den) (decide (q.num < 0)) (q.num.natAbs * p.den) = S at *
  rw [hN] at hs ⊢
  have hg0 : 0 < Nat.gcd (p.num * (q.den : Int) + q.num * (p.den : Int)).natAbs (p.den * q.den) := Nat.gcd_pos_of_pos_right _ hD
  have hcM : ((Nat.gcd (p.num * (q.den : Int) + q.num * (p.den : Int)).natAbs (p.den * q.den) : Nat) : Int) ∣ p.num * (q.den : Int) + q.num * (p.den : Int) := by
    rw [← Int.natAbs_dvd_natAbs]; exact Nat.gcd_dvd_left _ _
  generalize hgg : Nat.gcd (p.num * (q.den : Int) + q.num * (p.den : Int)).natAbs (p.den * q.den) = c at *
  generalize p.num * (q.den : Int) + q.num * (p.den : Int) = M at *
  obtain ⟨m, rfl⟩ := hcM
  have hc1 : (c : Int) * m / c = m := Int.mul_ediv_cancel_left _ (by omega)
  have hc2 : ((c : Int) * m).natAbs / c = m.natAbs := by rw [Int.natAbs_mul, Int.natAbs_natCast, Nat.mul_div_cancel_left _ hg0]
  rw [hc1, hc2]
  refine ⟨?_, rfl, rfl⟩
  rw [hs m.natAbs (by rw [Int.natAbs_mul, Int.natAbs_natCast]; exact ⟨fun h => Nat.mul_pos hg0 h, fun h => Nat.pos_of_mul_pos_left h⟩), decide_eq_decide]
  constructor
  · intro h9
    rcases (by omega : m < 0 ∨ 0 ≤ m) with h8 | h8
    · exact h8
    · have := Int.mul_nonneg (show (0 : Int) ≤ c by omega) h8
      omega
  · intro h9
    exact Int.mul_neg_of_pos_of_neg (by omega) h9
theorem refW_mul (a b k l : Nat) (ha : nw9 a ≤ k) (hb : nw9 b ≤ l) : nw9 (a * b) ≤ k + l := Nat.le_trans (nw_mul9 a b) (Nat.add_le_add ha hb)

/-- The result's variable, before anything is stored. -/
theorem res_r {W : World} {r : Nat} (h : W.heap[r]? = some (.cells #[.bool false, .slice none 0 0, .slice none 0 0] 64 (0, 0))) :
    W.cell? ⟨r, 0, none⟩ = some (.bool false) ∧ W.cell? ⟨r, 1, none⟩ = some (.slice none 0 0) ∧ W.cell? ⟨r, 2, none⟩ = some (.slice none 0 0) ∧ W.frozen? ⟨r, 0, none⟩ = false ∧ W.frozen? ⟨r, 1, none⟩ = false ∧ W.frozen? ⟨r, 2, none⟩ = false := by
  refine ⟨by rw [cell_of_row _ _ _ _ _ _ h]; rfl, by rw [cell_of_row _ _ _ _ _ _ h]; rfl, by rw [cell_of_row _ _ _ _ _ _ h]; rfl, ?_, ?_, ?_⟩ <;> simp [World.frozen?, h]
theorem put3 {W : World} {r : Nat} (h : W.heap[r]? = some (.cells #[.bool false, .slice none 0 0, .slice none 0 0] 64 (0, 0))) (a b c : Value) :
    (((W.setCell ⟨r, 0, none⟩ a).setCell ⟨r, 1, none⟩ b).setCell ⟨r, 2, none⟩ c).heap[r]? = some (.cells #[a, b, c] 64 (0, 0)) := by
  simp [World.setCell, Array.getElem?_modify, h]
theorem grown3 (W : World) (r : Nat) (a b c : Value) : W.grownBy (((W.setCell ⟨r, 0, none⟩ a).setCell ⟨r, 1, none⟩ b).setCell ⟨r, 2, none⟩ c) (some r) :=
  ⟨rfl, rfl, rfl, by simp [World.setCell], fun k _ hne => by
    have hk : k ≠ r := fun e => hne (by rw [e])
    rw [Below.heap_setCell _ _ _ _ hk, Below.heap_setCell _ _ _ _ hk, Below.heap_setCell _ _ _ _ hk]⟩

set_option maxRecDepth 100000 in
set_option maxHeartbeats 4000000 in
theorem r_Add (w : World) (x y : Value) (p q : Rat) (hx : RefV w x p) (hy : RefV w y q) (k1 : RefW p 10000000) (k2 : RefW q 10000000) :
    Calls Tryz.prog 76 #[x, y] w fun e w' => ∃ r, e = .returned r ∧ RefV w' r (p + q) ∧ Below w.heap.size w w' := by
  obtain ⟨e1, e2, e3⟩ := ref_add p q
  have hp0 := p.den_pos
  have hq0 := q.den_pos
  obtain ⟨xu, xv, rfl, hxu, hxv⟩ := hx
  obtain ⟨yu, yv, rfl, hyu, hyv⟩ := hy
  obtain ⟨k1a, k1b⟩ := k1
  obtain ⟨k2a, k2b⟩ := k2
  unfold RefV
  rw [← e1, ← e2, ← e3]
  clear e1 e2 e3
  generalize decide (p.num < 0) = s at *
  generalize decide (q.num < 0) = t at *
  generalize p.num.natAbs = a at *
  generalize q.num.natAbs = b at *
  generalize p.den = c at *
  generalize q.den = d at *
  have HA := Lib.hid (fun W (hW : Below w.heap.size w W) => r_times W xu yv a d (hxu.below hW) (hyv.below hW) (by omega) (by omega))
  have HBm := Lib.hid (fun W (hW : Below w.heap.size w W) => r_times W yu xv b c (hyu.below hW) (hxv.below hW) (by omega) (by omega))
  have HD := Lib.hid (fun W (hW : Below w.heap.size w W) => r_times W xv yv c d (hxv.below hW) (hyv.below hW) (by omega) (by omega))
  have nA := refW_mul a d _ _ k1a k2b
  have nB := refW_mul b c _ _ k2a k1b
  have nD := refW_mul c d _ _ k1b k2b
  have hD0 : 0 < c * d := Nat.mul_pos hp0 hq0
  have HNs := Lib.hid (And.intro nA (And.intro nB (And.intro nD hD0)))
  obtain ⟨A1, c1, rfl⟩ := hxu.sl
  obtain ⟨A2, c2, rfl⟩ := hxv.sl
  obtain ⟨A3, c3, rfl⟩ := hyu.sl
  obtain ⟨A4, c4, rfl⟩ := hyv.sl
  clear hxu hxv hyu hyv nA nB nD hD0 k1a k1b k2a k2b hp0 hq0
  obtain ⟨W0, hW0, hB0, hz0, KX⟩ := ref_box w s (.slice A1 (nw9 a) c1) (.slice A2 (nw9 c) c2)
  obtain ⟨W1, hW1, hB1, hz1, KY⟩ := ref_box W0 t (.slice A3 (nw9 b) c3) (.slice A4 (nw9 d) c4)
  obtain ⟨W2, hW2, hB2, hz2, KR⟩ := zero_box W1
  have HB0 := Lib.hid hB0
  have HB1 := Lib.hid hB1
  have HB2 := Lib.hid hB2
  rw [hz0] at hz1
  rw [hz1] at hz2
  clear hB0 hB1 hB2
  have hgz0 : W0.heap.size = w.heap.size + 1 := hz0
  go_enter Tryz.func76, Tryz.ntmps76
  go_wp2_with fail
  have hX2 : ∀ W, Below W2.heap.size W2 W → W.cell? ⟨w.heap.size, 0, none⟩ = some (.bool s) ∧ W.cell? ⟨w.heap.size, 1, none⟩ = some (.slice A1 (nw9 a) c1) ∧ W.cell? ⟨w.heap.size, 2, none⟩ = some (.slice A2 (nw9 c) c2) ∧
      W.cell? ⟨w.heap.size + 1, 0, none⟩ = some (.bool t) ∧ W.cell? ⟨w.heap.size + 1, 1, none⟩ = some (.slice A3 (nw9 b) c3) ∧ W.cell? ⟨w.heap.size + 1, 2, none⟩ = some (.slice A4 (nw9 d) c4) := fun W hW => by
    obtain ⟨x1, x2, x3⟩ := KX.out W (btr HB1.out (btr HB2.out hW))
    obtain ⟨y1, y2, y3⟩ := KY.out W (btr HB2.out hW)
    rw [hgz0] at y1 y2 y3
    exact ⟨x1, x2, x3, y1, y2, y3⟩
  have HX2 := Lib.hid hX2
  have HX1 : Hid (∀ W, Below W1.heap.size W1 W → W.cell? ⟨w.heap.size, 0, none⟩ = some (.bool s) ∧ W.cell? ⟨w.heap.size, 1, none⟩ = some (.slice A1 (nw9 a) c1) ∧ W.cell? ⟨w.heap.size, 2, none⟩ = some (.slice A2 (nw9 c) c2) ∧
      W.cell? ⟨w.heap.size + 1, 0, none⟩ = some (.bool t) ∧ W.cell? ⟨w.heap.size + 1, 1, none⟩ = some (.slice A3 (nw9 b) c3) ∧ W.cell? ⟨w.heap.size + 1, 2, none⟩ = some (.slice A4 (nw9 d) c4)) := fun W hW => by
    obtain ⟨x1, x2, x3⟩ := KX.out W (btr HB1.out hW)
    obtain ⟨y1, y2, y3⟩ := KY.out W hW
    rw [hgz0] at y1 y2 y3
    exact ⟨x1, x2, x3, y1, y2, y3⟩
  have KR2 : Hid (∀ W, Below W2.heap.size W2 W → W.heap[w.heap.size + 1 + 1]? = some (.cells #[.bool false, .slice none 0 0, .slice none 0 0] 64 (0, 0))) := fun W hW => by rw [← hz1]; exact KR.out W hW
  have HLe : Hid (W1.heap.size ≤ w.heap.size + 1 + 1) := by show _ ≤ _; omega
  have HM : Hid (∀ W, Below W2.heap.size W2 W → Below w.heap.size w W) := fun W h => btr HB0.out (btr HB1.out (btr HB2.out h))
  have B2d : Below W2.heap.size W2 W2.drew := Below.drew (Below.refl _ _)
  clear hX2
  go_region_held3 (fun w' => w'.cell? ⟨w.heap.size, 0, none⟩ = some (.bool s) ∧ w'.cell? ⟨w.heap.size, 1, none⟩ = some (.slice A1 (nw9 a) c1) ∧ w'.cell? ⟨w.heap.size, 2, none⟩ = some (.slice A2 (nw9 c) c2) ∧
      w'.cell? ⟨w.heap.size + 1, 0, none⟩ = some (.bool t) ∧ w'.cell? ⟨w.heap.size + 1, 1, none⟩ = some (.slice A3 (nw9 b) c3) ∧ w'.cell? ⟨w.heap.size + 1, 2, none⟩ = some (.slice A4 (nw9 d) c4))
    (first | exact HX2.out _ C2 | exact HX2.out _ C1 | exact HX2.out _ B2d | exact HX2.out _ (Below.refl _ _))
    (first
      | (go_at_call_of 137 (Value.slice A1 (nw9 a) c1); refine (HA.out _ (HM.out _ B2d)).mono ?_; rintro e w3 ⟨va, rfl, hva, hb3⟩; have C1 : Below W2.heap.size W2 w3 := btr B2d hb3)
      | (go_at_call_of 137 (Value.slice A3 (nw9 b) c3); refine (HBm.out _ (HM.out _ C1)).mono ?_; rintro e w4 ⟨vb, rfl, hvb, hb4⟩; have C2 : Below W2.heap.size W2 w4 := btr C1 hb4))
  all_goals
    have HVa := Lib.hid (hva.below hb4)
    have HVb := Lib.hid hvb
    have HC2 := Lib.hid C2
    obtain ⟨A5, c5, rfl⟩ := hva.sl
    obtain ⟨A6, c6, rfl⟩ := hvb.sl
    clear hva hvb hb3 hb4 C1 C2
    go_wp2_with fail
    refine (HD.out _ (HM.out _ HC2.out)).mono ?_
    rintro e w5 ⟨vd, rfl, hvd, hb5⟩
    have HVd := Lib.hid hvd
    have HVa5 := Lib.hid (HVa.out.below hb5)
    have HVb5 := Lib.hid (HVb.out.below hb5)
    have HC5 := Lib.hid (btr HC2.out hb5)
    obtain ⟨A7, c7, rfl⟩ := hvd.sl
    obtain ⟨x0, _, _, y0, _, _⟩ := HX2.out _ HC5.out
    clear hvd hb5 HA HBm HD HVa HVb
    have HNs2 := Lib.hid HNs.out
    generalize hgA : a * d = A at *
    generalize hgB : b * c = B at *
    generalize hgD : c * d = D at *
    have HgA := Lib.hid hgA; have HgB := Lib.hid hgB; have HgD := Lib.hid hgD
    clear hgA hgB hgD
    have HRed : Hid (∀ (bb : Bool) (N : Nat) (W : World) (u : Value), Below w5.heap.size w5 W → N9At W u N → nw9 N ≤ 20000001 → Calls Tryz.prog 140 #[.bool bb, u, .slice A7 (nw9 D) c7] W (RefRet (sgn bb (N / Nat.gcd N D)) (N / Nat.gcd N D) (D / Nat.gcd N D) W)) :=
      fun bb N W u hW hu hN => r_reduced W bb u _ N D hu (HVd.out.below hW) (by omega) (by have := HNs.out.2.2.1; omega) HNs.out.2.2.2
    by_cases hst : s = t
    · subst hst
      have HS1 : Hid (sumN s A s B = A + B) := by show _ = _; unfold sumN; rw [if_pos rfl]
      have HS2 : Hid (sumS s A s B = s) := by show _ = _; unfold sumS; rw [if_pos rfl]
      have HNp : Hid (nw9 (A + B) ≤ 20000001) := nw_add9 A B 20000000 HNs.out.1 HNs.out.2.1
      go_wp2_with fail
      have BKd : Below w5.heap.size w5 w5.drew := Below.drew (Below.refl _ _)
      have HXr : Hid (∀ W, Below w5.heap.size w5 W →  W.cell? ⟨w.heap.size, 0, none⟩ = some (.bool s) ∧ W.cell? ⟨w.heap.size, 1, none⟩ = some (.slice A1 (nw9 a) c1) ∧ W.cell? ⟨w.heap.size, 2, none⟩ = some (.slice A2 (nw9 c) c2) ∧ W.cell? ⟨w.heap.size + 1, 0, none⟩ = some (.bool s) ∧ W.cell? ⟨w.heap.size + 1, 1, none⟩ = some (.slice A3 (nw9 b) c3) ∧ W.cell? ⟨w.heap.size + 1, 2, none⟩ = some (.slice A4 (nw9 d) c4)) := fun W hW => HX2.out W (btr HC5.out hW)
      have HNr : Hid (∀ W, Below w5.heap.size w5 W → Below w5.heap.size w5 W) := fun W hW => hW
      have HLr : Hid (∀ W, Below w5.heap.size w5 W → Below W1.heap.size W1 W) := fun W hW => btr HB2.out (btr HC5.out hW)
      have HRr : Hid (∀ W, Below w5.heap.size w5 W → W.heap[w.heap.size + 1 + 1]? = some (.cells #[.bool false, .slice none 0 0, .slice none 0 0] 64 (0, 0))) := fun W hW => KR2.out W (btr HC5.out hW)
      go_region_held3 (fun w' => w'.cell? ⟨w.heap.size, 0, none⟩ = some (.bool s) ∧ w'.cell? ⟨w.heap.size, 1, none⟩ = some (.slice A1 (nw9 a) c1) ∧ w'.cell? ⟨w.heap.size, 2, none⟩ = some (.slice A2 (nw9 c) c2) ∧ w'.cell? ⟨w.heap.size + 1, 0, none⟩ = some (.bool s) ∧ w'.cell? ⟨w.heap.size + 1, 1, none⟩ = some (.slice A3 (nw9 b) c3) ∧ w'.cell? ⟨w.heap.size + 1, 2, none⟩ = some (.slice A4 (nw9 d) c4))
        (first | exact HX1.out _ ((((HLr.out _ C4).setCell (p := ⟨w.heap.size + 1 + 1, 0, none⟩) HLe.out _).setCell (p := ⟨w.heap.size + 1 + 1, 1, none⟩) HLe.out _).setCell (p := ⟨w.heap.size + 1 + 1, 2, none⟩) HLe.out _) | exact HXr.out _ C4 | exact HXr.out _ C3 | exact HXr.out _ BKd | exact HXr.out _ (Below.refl _ _))
        (first
          | (go_at_call 74; refine (r_plus _ _ _ A B (HVa5.out.below BKd) (HVb5.out.below BKd) (by have := HNs.out.1; omega) (by have := HNs.out.2.1; omega)).mono ?_; rintro e w7 ⟨vp, rfl, hvp, hb7⟩; have C3 : Below w5.heap.size w5 w7 := btr BKd hb7)
          | (go_at_call 140; refine (HRed.out s (A + B) _ vp (HNr.out _ C3) hvp HNp.out).mono ?_; rintro e w8 ⟨vr, rfl, hvr, hb8⟩; have C4 : Below w5.heap.size w5 w8 := btr C3 hb8; obtain ⟨zu, zv, rfl, hzu, hzv⟩ := hvr; have HZu := Lib.hid hzu; have HZv := Lib.hid hzv; obtain ⟨A8, c8, rfl⟩ := hzu.sl; obtain ⟨A9, c9, rfl⟩ := hzv.sl; clear hzu hzv; obtain ⟨r0, r1, r2, f0, f1, f2⟩ := res_r (HRr.out _ C4)))
      all_goals
        have hrow := HRr.out _ C4
        have HL := Lib.hid (HM.out _ (btr HC5.out C4))
        clear hvp hb7 hb8 C3 C4 r0 r1 r2 f0 f1 f2
        have hno := ref_noint hrow
        go_wp2
        refine bodyPost_ret (results_cell_row Tryz.results76 _ _ (w.heap.size + 1 + 1) 64 _ (0, 0) _ rfl (put3 hrow _ _ _) Tryz.underlying64 rfl (by rw [info_ref]; rfl)) rfl
          ⟨_, rfl, ?_, HL.out.grown (grown3 _ _ _ _ _) HL.out.size (fun j hj => by injection hj with hj; omega)⟩
        rw [HgA.out, HgB.out, HgD.out, HS1.out, HS2.out]
        exact ⟨_, _, rfl, HZu.out.apart hno (grown3 _ _ _ _ _), HZv.out.apart hno (grown3 _ _ _ _ _)⟩
    · have hst' : (s == t) = false := by rw [beq_eq_false_iff_ne]; exact hst
      rcases Nat.lt_or_ge A B with hlt | hle
      · have HS1 : Hid (sumN s A t B = B - A) := by show _ = _; unfold sumN; rw [if_neg hst, if_pos hlt]
        have HS2 : Hid (sumS s A t B = t) := by show _ = _; unfold sumS; rw [if_neg hst, if_pos hlt]
        have HNp : Hid (nw9 (B - A) ≤ 20000001) := Nat.le_trans (nw_mono9 (Nat.sub_le _ _)) (by have := HNs.out.2.1; omega)
        have HCm := Lib.hid (r_cmpN w5 _ _ A B HVa5.out HVb5.out)
        have HLt := Lib.hid hlt
        have hcc := cmpN_lt hlt
        clear hlt
        generalize cmpN A B = cc at *
        have hc0 : ¬ (0 ≤ cc) := by omega
        go_wp2_with fail
        refine HCm.out.mono ?_
        rintro e w6 ⟨rfl, nd, rfl⟩
        have HC6 := Lib.hid (below_drewN (Below.refl w5.heap.size w5) nd)
        have HC6b := Lib.hid (btr HC5.out HC6.out)
        have HVa6 := Lib.hid (HVa5.out.below HC6.out)
        have HVb6 := Lib.hid (HVb5.out.below HC6.out)
        generalize w5.drewN nd = w6 at *
        go_wp2_with fail
        have BKd : Below w6.heap.size w6 w6.drew := Below.drew (Below.refl _ _)
        have HXr : Hid (∀ W, Below w6.heap.size w6 W →  W.cell? ⟨w.heap.size, 0, none⟩ = some (.bool s) ∧ W.cell? ⟨w.heap.size, 1, none⟩ = some (.slice A1 (nw9 a) c1) ∧ W.cell? ⟨w.heap.size, 2, none⟩ = some (.slice A2 (nw9 c) c2) ∧ W.cell? ⟨w.heap.size + 1, 0, none⟩ = some (.bool t) ∧ W.cell? ⟨w.heap.size + 1, 1, none⟩ = some (.slice A3 (nw9 b) c3) ∧ W.cell? ⟨w.heap.size + 1, 2, none⟩ = some (.slice A4 (nw9 d) c4)) := fun W hW => HX2.out W (btr HC6b.out hW)
        have HNr : Hid (∀ W, Below w6.heap.size w6 W → Below w5.heap.size w5 W) := fun W hW => btr HC6.out hW
        have HLr : Hid (∀ W, Below w6.heap.size w6 W → Below W1.heap.size W1 W) := fun W hW => btr HB2.out (btr HC6b.out hW)
        have HRr : Hid (∀ W, Below w6.heap.size w6 W → W.heap[w.heap.size + 1 + 1]? = some (.cells #[.bool false, .slice none 0 0, .slice none 0 0] 64 (0, 0))) := fun W hW => KR2.out W (btr HC6b.out hW)
        go_region_held3 (fun w' => w'.cell? ⟨w.heap.size, 0, none⟩ = some (.bool s) ∧ w'.cell? ⟨w.heap.size, 1, none⟩ = some (.slice A1 (nw9 a) c1) ∧ w'.cell? ⟨w.heap.size, 2, none⟩ = some (.slice A2 (nw9 c) c2) ∧ w'.cell? ⟨w.heap.size + 1, 0, none⟩ = some (.bool t) ∧ w'.cell? ⟨w.heap.size + 1, 1, none⟩ = some (.slice A3 (nw9 b) c3) ∧ w'.cell? ⟨w.heap.size + 1, 2, none⟩ = some (.slice A4 (nw9 d) c4))
          (first | exact HX1.out _ ((((HLr.out _ C4).setCell (p := ⟨w.heap.size + 1 + 1, 0, none⟩) HLe.out _).setCell (p := ⟨w.heap.size + 1 + 1, 1, none⟩) HLe.out _).setCell (p := ⟨w.heap.size + 1 + 1, 2, none⟩) HLe.out _) | exact HXr.out _ C4 | exact HXr.out _ C3 | exact HXr.out _ BKd | exact HXr.out _ (Below.refl _ _))
          (first
            | (go_at_call 138; refine (r_minus _ _ _ B A (HVb6.out.below BKd) (HVa6.out.below BKd) (by have := HNs.out.2.1; omega) (Nat.le_of_lt HLt.out)).mono ?_; rintro e w7 ⟨vp, rfl, hvp, hb7⟩; have C3 : Below w6.heap.size w6 w7 := btr BKd hb7)
            | (go_at_call 140; refine (HRed.out t (B - A) _ vp (HNr.out _ C3) hvp HNp.out).mono ?_; rintro e w8 ⟨vr, rfl, hvr, hb8⟩; have C4 : Below w6.heap.size w6 w8 := btr C3 hb8; obtain ⟨zu, zv, rfl, hzu, hzv⟩ := hvr; have HZu := Lib.hid hzu; have HZv := Lib.hid hzv; obtain ⟨A8, c8, rfl⟩ := hzu.sl; obtain ⟨A9, c9, rfl⟩ := hzv.sl; clear hzu hzv; obtain ⟨r0, r1, r2, f0, f1, f2⟩ := res_r (HRr.out _ C4)))
        all_goals
          have hrow := HRr.out _ C4
          have HL := Lib.hid (HM.out _ (btr HC6b.out C4))
          clear hvp hb7 hb8 C3 C4 r0 r1 r2 f0 f1 f2
          have hno := ref_noint hrow
          go_wp2
          refine bodyPost_ret (results_cell_row Tryz.results76 _ _ (w.heap.size + 1 + 1) 64 _ (0, 0) _ rfl (put3 hrow _ _ _) Tryz.underlying64 rfl (by rw [info_ref]; rfl)) rfl
            ⟨_, rfl, ?_, HL.out.grown (grown3 _ _ _ _ _) HL.out.size (fun j hj => by injection hj with hj; omega)⟩
          rw [HgA.out, HgB.out, HgD.out, HS1.out, HS2.out]
          exact ⟨_, _, rfl, HZu.out.apart hno (grown3 _ _ _ _ _), HZv.out.apart hno (grown3 _ _ _ _ _)⟩
      · have HS1 : Hid (sumN s A t B = A - B) := by show _ = _; unfold sumN; rw [if_neg hst, if_neg (by omega)]
        have HS2 : Hid (sumS s A t B = s) := by show _ = _; unfold sumS; rw [if_neg hst, if_neg (by omega)]
        have HNp : Hid (nw9 (A - B) ≤ 20000001) := Nat.le_trans (nw_mono9 (Nat.sub_le _ _)) (by have := HNs.out.1; omega)
        have HCm := Lib.hid (r_cmpN w5 _ _ A B HVa5.out HVb5.out)
        have HLt := Lib.hid hle
        have hcc : 0 ≤ cmpN A B := by
          rcases Nat.lt_or_ge B A with h9 | h9
          · rw [cmpN_gt h9]; omega
          · rw [show A = B by omega, cmpN_eq]; omega
        clear hle
        generalize cmpN A B = cc at *
        have hc0 : 0 ≤ cc := hcc
        go_wp2_with fail
        refine HCm.out.mono ?_
        rintro e w6 ⟨rfl, nd, rfl⟩
        have HC6 := Lib.hid (below_drewN (Below.refl w5.heap.size w5) nd)
        have HC6b := Lib.hid (btr HC5.out HC6.out)
        have HVa6 := Lib.hid (HVa5.out.below HC6.out)
        have HVb6 := Lib.hid (HVb5.out.below HC6.out)
        generalize w5.drewN nd = w6 at *
        go_wp2_with fail
        have BKd : Below w6.heap.size w6 w6.drew := Below.drew (Below.refl _ _)
        have HXr : Hid (∀ W, Below w6.heap.size w6 W →  W.cell? ⟨w.heap.size, 0, none⟩ = some (.bool s) ∧ W.cell? ⟨w.heap.size, 1, none⟩ = some (.slice A1 (nw9 a) c1) ∧ W.cell? ⟨w.heap.size, 2, none⟩ = some (.slice A2 (nw9 c) c2) ∧ W.cell? ⟨w.heap.size + 1, 0, none⟩ = some (.bool t) ∧ W.cell? ⟨w.heap.size + 1, 1, none⟩ = some (.slice A3 (nw9 b) c3) ∧ W.cell? ⟨w.heap.size + 1, 2, none⟩ = some (.slice A4 (nw9 d) c4)) := fun W hW => HX2.out W (btr HC6b.out hW)
        have HNr : Hid (∀ W, Below w6.heap.size w6 W → Below w5.heap.size w5 W) := fun W hW => btr HC6.out hW
        have HLr : Hid (∀ W, Below w6.heap.size w6 W → Below W1.heap.size W1 W) := fun W hW => btr HB2.out (btr HC6b.out hW)
        have HRr : Hid (∀ W, Below w6.heap.size w6 W → W.heap[w.heap.size + 1 + 1]? = some (.cells #[.bool false, .slice none 0 0, .slice none 0 0] 64 (0, 0))) := fun W hW => KR2.out W (btr HC6b.out hW)
        go_region_held3 (fun w' => w'.cell? ⟨w.heap.size, 0, none⟩ = some (.bool s) ∧ w'.cell? ⟨w.heap.size, 1, none⟩ = some (.slice A1 (nw9 a) c1) ∧ w'.cell? ⟨w.heap.size, 2, none⟩ = some (.slice A2 (nw9 c) c2) ∧ w'.cell? ⟨w.heap.size + 1, 0, none⟩ = some (.bool t) ∧ w'.cell? ⟨w.heap.size + 1, 1, none⟩ = some (.slice A3 (nw9 b) c3) ∧ w'.cell? ⟨w.heap.size + 1, 2, none⟩ = some (.slice A4 (nw9 d) c4))
          (first | exact HX1.out _ ((((HLr.out _ C4).setCell (p := ⟨w.heap.size + 1 + 1, 0, none⟩) HLe.out _).setCell (p := ⟨w.heap.size + 1 + 1, 1, none⟩) HLe.out _).setCell (p := ⟨w.heap.size + 1 + 1, 2, none⟩) HLe.out _) | exact HXr.out _ C4 | exact HXr.out _ C3 | exact HXr.out _ BKd | exact HXr.out _ (Below.refl _ _))
          (first
            | (go_at_call 138; refine (r_minus _ _ _ A B (HVa6.out.below BKd) (HVb6.out.below BKd) (by have := HNs.out.1; omega) HLt.out).mono ?_; rintro e w7 ⟨vp, rfl, hvp, hb7⟩; have C3 : Below w6.heap.size w6 w7 := btr BKd hb7)
            | (go_at_call 140; refine (HRed.out s (A - B) _ vp (HNr.out _ C3) hvp HNp.out).mono ?_; rintro e w8 ⟨vr, rfl, hvr, hb8⟩; have C4 : Below w6.heap.size w6 w8 := btr C3 hb8; obtain ⟨zu, zv, rfl, hzu, hzv⟩ := hvr; have HZu := Lib.hid hzu; have HZv := Lib.hid hzv; obtain ⟨A8, c8, rfl⟩ := hzu.sl; obtain ⟨A9, c9, rfl⟩ := hzv.sl; clear hzu hzv; obtain ⟨r0, r1, r2, f0, f1, f2⟩ := res_r (HRr.out _ C4)))
        all_goals
          have hrow := HRr.out _ C4
          have HL := Lib.hid (HM.out _ (btr HC6b.out C4))
          clear hvp hb7 hb8 C3 C4 r0 r1 r2 f0 f1 f2
          have hno := ref_noint hrow
          go_wp2
          refine bodyPost_ret (results_cell_row Tryz.results76 _ _ (w.heap.size + 1 + 1) 64 _ (0, 0) _ rfl (put3 hrow _ _ _) Tryz.underlying64 rfl (by rw [info_ref]; rfl)) rfl
            ⟨_, rfl, ?_, HL.out.grown (grown3 _ _ _ _ _) HL.out.size (fun j hj => by injection hj with hj; omega)⟩
          rw [HgA.out, HgB.out, HgD.out, HS1.out, HS2.out]
          exact ⟨_, _, rfl, HZu.out.apart hno (grown3 _ _ _ _ _), HZv.out.apart hno (grown3 _ _ _ _ _)⟩
end Go.Proofs.YtnfncdalneifnaaGreatDoor
end

/- The reference's Fits and Number, whatever the value. -/
section
namespace Go.Proofs.YtnfncdalneifnaaGreatDoor
open Go.RowKit Go.Deep

set_option maxRecDepth 100000 in
set_option maxHeartbeats 8000000 in
theorem r_Number (k n d : Int) (s : ByteArray) (w : World) (hs : s.size ≤ 9223372036854775807) :
    Calls Tryz.prog 31 #[V k n d s] w fun e w' => ∃ r, e = .returned (.tuple #[r, .bool (okB k n d s && k == 2)]) ∧ (∃ b A m c A' m' c', r = .agg #[.bool b, .slice A m c, .slice A' m' c']) ∧ ((okB k n d s && k == 2) = true → RefV w' r (qV n d)) ∧ Below w.heap.size w w' := by
  obtain ⟨W, b, hW, hb, hlt, hbel, K⟩ := box_facts w k n d s
  have HBel := Lib.hid hbel
  have KK : Hid (∀ W', Below W.heap.size W W' → W'.cell? ⟨w.heap.size, 0, none⟩ = some (.int .i64 k) ∧ W'.cell? ⟨w.heap.size, 1, none⟩ = some (.int .i64 n) ∧ W'.cell? ⟨w.heap.size, 2, none⟩ = some (.int .i64 d) ∧ W'.cell? ⟨w.heap.size, 3, none⟩ = some (.string s)) := by
    rw [hb]; exact K.out
  have HC := Lib.hid (fun W => r_Check k n d s W hs)
  clear K hb hlt hbel hs
  obtain ⟨W1, hW1, hB1, hz1, KR⟩ := zero_box W
  have HB1 := Lib.hid hB1
  have hWs : W.heap.size = w.heap.size + 1 := by rw [← hW]; simp
  obtain ⟨k0, k1, k2, k3⟩ := KK.out W1 hB1
  clear hB1
  by_cases hE : (okB k n d s && k == 2) = true
  · have h9 : okB k n d s = true ∧ k = 2 := by simpa using hE
    obtain ⟨hok, rfl⟩ := h9
    have hl : Low n d := by
      have : okB 2 n d s = decide (s.toList = [] ∧ Low n d) := rfl
      rw [this] at hok
      exact (of_decide_eq_true hok).2
    have HQ := Lib.hid (And.intro (qV_num hl) (qV_den hl))
    have hl2 := hl
    obtain ⟨a1, a2, a3, a4, a5⟩ := hl2
    have HSn := Lib.hid (fun W => r_size W n (by omega) (by omega))
    have HSd := Lib.hid (fun W => r_size W d (by omega) (by omega))
    have HC0 : Hid (∀ W, Calls Tryz.prog 28 #[V 2 n d s] W fun e w' => e = .returned (.int .i64 0) ∧ Below W.heap.size W w') := fun W => by
      have h9 := HC.out W
      rw [hok] at h9
      exact h9
    rw [hE]
    clear hok HC hE hl a1 a2 a3 a4 a5
    go_enter Tryz.func31, Tryz.ntmps31
    go_wp2_with fail
    refine (HC0.out W1).mono ?_
    rintro e w2 ⟨rfl, hb2⟩
    have HB2 := Lib.hid hb2
    obtain ⟨k0, k1, k2, k3⟩ := KK.out w2 (btr HB1.out hb2)
    clear hb2
    go_wp2_with fail
    have B2d : Below w2.heap.size w2 w2.drew := Below.drew (Below.refl _ _)
    have HLe : Hid (W.heap.size ≤ w.heap.size + 1) := by show _ ≤ _; omega
    have HK2 : Hid (∀ W', Below W.heap.size W W' → W'.cell? ⟨w.heap.size, 0, none⟩ = some (.int .i64 2) ∧ W'.cell? ⟨w.heap.size, 1, none⟩ = some (.int .i64 n) ∧ W'.cell? ⟨w.heap.size, 2, none⟩ = some (.int .i64 d) ∧ W'.cell? ⟨w.heap.size, 3, none⟩ = some (.string s)) := KK.out
    have HL2 : Hid (∀ W', Below w2.heap.size w2 W' → Below W.heap.size W W') := fun W' h => btr HB1.out (btr HB2.out h)
    have HR2 : Hid (∀ W', Below w2.heap.size w2 W' → W'.heap[w.heap.size + 1]? = some (.cells #[.bool false, .slice none 0 0, .slice none 0 0] 64 (0, 0))) := fun W' h => by rw [← hWs]; exact KR.out W' (btr HB2.out h)
    clear k0 k1 k2 k3
    go_region_held3 (fun w' => w'.cell? ⟨w.heap.size, 0, none⟩ = some (.int .i64 2) ∧ w'.cell? ⟨w.heap.size, 1, none⟩ = some (.int .i64 n) ∧ w'.cell? ⟨w.heap.size, 2, none⟩ = some (.int .i64 d) ∧ w'.cell? ⟨w.heap.size, 3, none⟩ = some (.string s))
      (first | exact HK2.out _ ((((HL2.out _ B4).setCell (p := ⟨w.heap.size + 1, 0, none⟩) HLe.out _).setCell (p := ⟨w.heap.size + 1, 1, none⟩) HLe.out _).setCell (p := ⟨w.heap.size + 1, 2, none⟩) HLe.out _) | exact HK2.out _ (HL2.out _ B4) | exact HK2.out _ (HL2.out _ B3) | exact HK2.out _ (HL2.out _ B2d) | exact HK2.out _ (HL2.out _ (Below.refl _ _)))
      (first
        | (go_at_call_of 67 (Value.int IntKind.i64 n); refine (HSn.out _).mono ?_; rintro e w3 ⟨v3, rfl, hv3, hb3⟩; have B3 : Below w2.heap.size w2 w3 := btr B2d hb3)
        | (go_at_call_of 67 (Value.int IntKind.i64 d); refine (HSd.out _).mono ?_; rintro e w4 ⟨v4, rfl, hv4, hb4⟩; have B4 : Below w2.heap.size w2 w4 := btr B3 hb4; have HV3 := Lib.hid (hv3.below hb4); have HV4 := Lib.hid hv4; obtain ⟨A3, c3, rfl⟩ := hv3.sl; obtain ⟨A4, c4, rfl⟩ := hv4.sl; obtain ⟨r0, r1, r2, f0, f1, f2⟩ := res_r (HR2.out _ B4)))
    all_goals
      have hrow := HR2.out _ B4
      have HL := Lib.hid (btr HBel.out (HL2.out _ B4))
      have hno := ref_noint hrow
      clear hv3 hv4 hb3 hb4 B3 B4 r0 r1 r2 f0 f1 f2
      go_wp2
      refine bodyPost_ret (results_cell_tmp Tryz.results31 _ _ (w.heap.size + 1) 64 _ (0, 0) _ rfl (put3 hrow _ _ _) Tryz.underlying64 rfl (by rw [info_ref]; rfl)) rfl
        ⟨_, rfl, ⟨_, _, _, _, _, _, _, rfl⟩, fun _ => ?_, HL.out.grown (grown3 _ _ _ _ _) HL.out.size (fun j hj => by injection hj with hj; omega)⟩
      show Ref _ _ (decide ((qV n d).num < 0)) (qV n d).num.natAbs (qV n d).den
      rw [HQ.out.1, HQ.out.2]
      exact ⟨_, _, rfl, HV3.out.apart hno (grown3 _ _ _ _ _), HV4.out.apart hno (grown3 _ _ _ _ _)⟩
  · have hE' : (okB k n d s && k == 2) = false := by simpa using hE
    rw [hE']
    by_cases hok : okB k n d s = true
    · have hk : (k == 2) = false := by rw [hok] at hE'; simpa using hE'
      have hk2 : (k != 2) = true := by simp [bne, hk]
      have HC0 : Hid (∀ W, Calls Tryz.prog 28 #[V k n d s] W fun e w' => e = .returned (.int .i64 0) ∧ Below W.heap.size W w') := fun W => by
        have h9 := HC.out W
        rw [hok] at h9
        exact h9
      clear hok HC hE hE'
      go_enter Tryz.func31, Tryz.ntmps31
      go_wp2_with fail
      refine (HC0.out W1).mono ?_
      rintro e w2 ⟨rfl, hb2⟩
      have HB2 := Lib.hid hb2
      obtain ⟨q0, q1, q2, q3⟩ := KK.out w2 (btr HB1.out hb2)
      have hcell : w2.heap[w.heap.size + 1]? = some (.cells #[.bool false, .slice none 0 0, .slice none 0 0] 64 (0, 0)) := by rw [← hWs]; exact KR.out w2 hb2
      have hBf := btr HBel.out (btr HB1.out hb2)
      clear hb2 k0 k1 k2 k3
      go_wp2_with (refine wpList_store_row 64 _ _ rfl rfl rfl (w.heap.size + 1) 64 rfl [.bool false, .slice none 0 0, .slice none 0 0] rfl _ hcell rfl info_ref (ref_one _ _ _ _ _ _ _) ?_; intro wz hhz hgz hzz; have HGz := Lib.hid hgz; have HZz := Lib.hid hzz; clear hzz hgz hcell)
      exact bodyPost_ret (v := .tuple #[.agg #[.bool false, .slice none 0 0, .slice none 0 0], .bool false]) (results_cell_tmp Tryz.results31 _ _ (w.heap.size + 1) 64 _ (0, 0) _ rfl hhz Tryz.underlying64 rfl (by rw [info_ref]; rfl)) rfl
        ⟨_, rfl, ⟨_, _, _, _, _, _, _, rfl⟩, (fun h => by cases h), hBf.grown HGz.out hBf.size (fun j hj => by injection hj with hj; omega)⟩
    · have HC0 : Hid (∀ W, Calls Tryz.prog 28 #[V k n d s] W fun e w' => e = .returned (.int .i64 2) ∧ Below W.heap.size W w') := fun W => by
        have h9 := HC.out W
        rw [show okB k n d s = false by simpa using hok] at h9
        exact h9
      clear hok HC hE hE'
      go_enter Tryz.func31, Tryz.ntmps31
      go_wp2_with fail
      refine (HC0.out W1).mono ?_
      rintro e w2 ⟨rfl, hb2⟩
      have HB2 := Lib.hid hb2
      obtain ⟨q0, q1, q2, q3⟩ := KK.out w2 (btr HB1.out hb2)
      have hcell : w2.heap[w.heap.size + 1]? = some (.cells #[.bool false, .slice none 0 0, .slice none 0 0] 64 (0, 0)) := by rw [← hWs]; exact KR.out w2 hb2
      have hBf := btr HBel.out (btr HB1.out hb2)
      clear hb2 k0 k1 k2 k3
      go_wp2_with (refine wpList_store_row 64 _ _ rfl rfl rfl (w.heap.size + 1) 64 rfl [.bool false, .slice none 0 0, .slice none 0 0] rfl _ hcell rfl info_ref (ref_one _ _ _ _ _ _ _) ?_; intro wz hhz hgz hzz; have HGz := Lib.hid hgz; have HZz := Lib.hid hzz; clear hzz hgz hcell)
      exact bodyPost_ret (v := .tuple #[.agg #[.bool false, .slice none 0 0, .slice none 0 0], .bool false]) (results_cell_tmp Tryz.results31 _ _ (w.heap.size + 1) 64 _ (0, 0) _ rfl hhz Tryz.underlying64 rfl (by rw [info_ref]; rfl)) rfl
        ⟨_, rfl, ⟨_, _, _, _, _, _, _, rfl⟩, (fun h => by cases h), hBf.grown HGz.out hBf.size (fun j hj => by injection hj with hj; omega)⟩
end Go.Proofs.YtnfncdalneifnaaGreatDoor
end
