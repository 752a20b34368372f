/- The reference's natural numbers: sums. -/
import Derived.Test.YtogmbehomilalaaGreatDoorZNat9
import Derived.Test.YtogmbehomilalaaGreatDoorZRefB9
import Derived.Test.YtogmbehomilalaaGreatDoorZDo
import Derived.Test.YtogmbehomilalaaGreatDoorZMathT
import Derived.Test.YtogmbehomilalaaGreatDoorZPrtG
import Derived.Test.YtogmbehomilalaaGreatDoorZMathD
import Derived.Deep.RegionHeld3
import Derived.BigQuiet

/- The reference's natural numbers: sums. -/
section
namespace Go.Proofs.YtogmbehomilalaaGreatDoor
open Go.RowKit Go.Deep

end Go.Proofs.YtogmbehomilalaaGreatDoor
end

/- The reference's rational numbers: the integer below one. -/
section
namespace Go.Proofs.YtogmbehomilalaaGreatDoor
open Go.RowKit Go.Deep

end Go.Proofs.YtogmbehomilalaaGreatDoor
end

/- The reference's rational numbers: the value of one. -/
section
namespace Go.Proofs.YtogmbehomilalaaGreatDoor
open Go.RowKit Go.Deep

def RefV (w : World) (r : Value) (q : Rat) : Prop := Ref w r (decide (q.num < 0)) q.num.natAbs q.den
theorem RefV.below {w w' : World} {r : Value} {q : Rat} (h : RefV w r q) (hb : Below w.heap.size w w') : RefV w' r q := Ref.below h hb

end Go.Proofs.YtogmbehomilalaaGreatDoor
end

/- The reference's naturals of integers. -/
section
namespace Go.Proofs.YtogmbehomilalaaGreatDoor
open Go.RowKit Go.Deep

set_option maxHeartbeats 1000000 in
theorem r_size (w : World) (n : Int) (h0 : -9223372036854775808 ≤ n) (h1 : n ≤ 9223372036854775807) :
    Calls Tryz.prog 135 #[.int .i64 n] w (Nat9 n.natAbs w) := by
  have HN := Lib.hid (r_natural w n.natAbs (by unfold W64; omega))
  by_cases h : n < 0
  · have e1 : IntKind.u64.wrap (-IntKind.u64.wrap n) = (n.natAbs : Int) := nat_abs_u64 n h0 h
    have E1 := Lib.hid e1
    clear e1
    go_enter Tryz.func135, Tryz.ntmps135
    go_wp2_with fail
    first | rw [E1.out] | (rw [show Value.int .u64 n = Value.int .u64 (n.natAbs : Int) from congrArg _ E1.out])
    refine HN.out.mono ?_
    rintro e w1 ⟨v, rfl, hv, hb⟩
    have HV := Lib.hid hv
    obtain ⟨A, c, rfl⟩ := hv.sl
    go_wp2
    go_ret
    exact ⟨_, rfl, HV.out, hb⟩
  · have E1 : Hid (n = (n.natAbs : Int)) := by show _ = _; omega
    go_enter Tryz.func135, Tryz.ntmps135
    go_wp2_with fail
    first | rw [E1.out] | (rw [show Value.int .u64 n = Value.int .u64 (n.natAbs : Int) from congrArg _ E1.out])
    refine HN.out.mono ?_
    rintro e w1 ⟨v, rfl, hv, hb⟩
    have HV := Lib.hid hv
    obtain ⟨A, c, rfl⟩ := hv.sl
    go_wp2
    go_ret
    exact ⟨_, rfl, HV.out, hb⟩

end Go.Proofs.YtogmbehomilalaaGreatDoor
end

/- The reference's Check, whatever the value. -/
section
namespace Go.Proofs.YtogmbehomilalaaGreatDoor
open Go.RowKit Go.Deep

set_option maxRecDepth 100000 in
set_option maxHeartbeats 4000000 in
theorem r_Check0 (n d : Int) (s : ByteArray) (w : World) :
    Calls Tryz.prog 111 #[V 0 n d s] w fun e w' => e = .returned (.int .i64 (errB (okB 0 n d s))) ∧ Below w.heap.size w w' := by
  have hE : errB (okB 0 n d s) = errB (decide (d = 0 ∧ s.toList = [] ∧ 1 ≤ n ∧ n ≤ 255)) := by congr 1
  rw [hE]
  clear hE
  generalize hE : errB (decide (d = 0 ∧ s.toList = [] ∧ 1 ≤ n ∧ n ≤ 255)) = E
  have h9 : (1 ≤ n ∧ n ≤ 255 ∧ d = 0 ∧ s.toList = []) ∨ ¬ 1 ≤ n ∨ (1 ≤ n ∧ ¬ n ≤ 255) ∨ (1 ≤ n ∧ n ≤ 255 ∧ ¬ d = 0) ∨ (1 ≤ n ∧ n ≤ 255 ∧ d = 0 ∧ ¬ s.toList = []) := by
    by_cases h1 : 1 ≤ n <;> by_cases h2 : n ≤ 255 <;> by_cases h3 : d = 0 <;> by_cases h4 : s.toList = [] <;> simp [h1, h2, h3, h4]
  rcases h9 with ⟨h1, h2, rfl, h4⟩ | h1 | ⟨h1, h2⟩ | ⟨h1, h2, h3⟩ | ⟨h1, h2, rfl, h4⟩
  · have HR : Hid (E = 0) := by show _ = _; rw [← hE]; simp [errB, h1, h2, h4]
    clear hE
    go_enter Tryz.func111, Tryz.ntmps111
    go_wp2
    go_ret
    exact ⟨by rw [HR.out]; rfl, (Below.refl _ _).alloc (Nat.le_refl _) _⟩
  all_goals
    have HR : Hid (E = 2) := by
      show _ = _; rw [← hE]
      first
      | simp [errB, h1, h2, h4]
      | simp [errB, h1, h2, h3]
      | (simp only [errB]; rw [if_neg]; simp; omega)
      | (simp [errB]; omega)
    try (have h5 : (d == 0) = false := by rw [beq_eq_false_iff_ne]; exact h3)
    try (have h8 : s.toList.isEmpty = false := by rw [List.isEmpty_eq_false_iff]; exact h4)
    clear hE
    go_enter Tryz.func111, Tryz.ntmps111
    go_wp2
    go_ret
    exact ⟨by rw [HR.out]; rfl, (Below.refl _ _).alloc (Nat.le_refl _) _⟩

set_option maxRecDepth 100000 in
set_option maxHeartbeats 4000000 in
theorem r_Check1 (n d : Int) (s : ByteArray) (w : World) :
    Calls Tryz.prog 111 #[V 1 n d s] w fun e w' => e = .returned (.int .i64 (errB (okB 1 n d s))) ∧ Below w.heap.size w w' := by
  have hE : errB (okB 1 n d s) = errB (decide ((n = 0 ∨ n = 1) ∧ d = 0 ∧ s.toList = [])) := by congr 1
  rw [hE]
  clear hE
  generalize hE : errB (decide ((n = 0 ∨ n = 1) ∧ d = 0 ∧ s.toList = [])) = E
  have h9 : (n = 0 ∧ d = 0 ∧ s.toList = []) ∨ (n = 1 ∧ d = 0 ∧ s.toList = []) ∨ (¬ n = 0 ∧ ¬ n = 1) ∨ (n = 0 ∧ ¬ d = 0) ∨ (n = 1 ∧ ¬ d = 0) ∨ (n = 0 ∧ d = 0 ∧ ¬ s.toList = []) ∨ (n = 1 ∧ d = 0 ∧ ¬ s.toList = []) := by
    by_cases h1 : n = 0 <;> by_cases h2 : n = 1 <;> by_cases h3 : d = 0 <;> by_cases h4 : s.toList = [] <;> simp [h1, h2, h3, h4] <;> omega
  rcases h9 with ⟨rfl, rfl, h4⟩ | ⟨rfl, rfl, h4⟩ | ⟨h1, h2⟩ | ⟨rfl, h3⟩ | ⟨rfl, h3⟩ | ⟨rfl, rfl, h4⟩ | ⟨rfl, rfl, h4⟩
  iterate 2
    · have HR : Hid (E = 0) := by show _ = _; rw [← hE]; simp [errB, h4]
      clear hE
      go_enter Tryz.func111, Tryz.ntmps111
      go_wp2
      go_ret
      exact ⟨by rw [HR.out]; rfl, (Below.refl _ _).alloc (Nat.le_refl _) _⟩
  all_goals
    have HR : Hid (E = 2) := by
      show _ = _; rw [← hE]
      first
      | simp [errB, h1, h2]
      | simp [errB, h4]
      | simp [errB, h3]
    try (have h5 : (d == 0) = false := by rw [beq_eq_false_iff_ne]; exact h3)
    try (have h6 : (n == 0) = false := by rw [beq_eq_false_iff_ne]; exact h1)
    try (have h7 : (n == 1) = false := by rw [beq_eq_false_iff_ne]; exact h2)
    try (have h8 : s.toList.isEmpty = false := by rw [List.isEmpty_eq_false_iff]; exact h4)
    clear hE
    go_enter Tryz.func111, Tryz.ntmps111
    go_wp2
    go_ret
    exact ⟨by rw [HR.out]; rfl, (Below.refl _ _).alloc (Nat.le_refl _) _⟩

set_option maxRecDepth 100000 in
set_option maxHeartbeats 4000000 in
theorem r_CheckX (k n d : Int) (s : ByteArray) (w : World) (g0 : ¬ k = 0) (g1 : ¬ k = 1) (g2 : ¬ k = 2) (g3 : ¬ k = 3) :
    Calls Tryz.prog 111 #[V k n d s] w fun e w' => e = .returned (.int .i64 (errB (okB k n d s))) ∧ Below w.heap.size w w' := by
  have HR : Hid (errB (okB k n d s) = 2) := by show _ = _; simp [okB, errB, g0, g1, g2, g3]
  have e0 : (k == 0) = false := by rw [beq_eq_false_iff_ne]; exact g0
  have e1 : (k == 1) = false := by rw [beq_eq_false_iff_ne]; exact g1
  have e2 : (k == 2) = false := by rw [beq_eq_false_iff_ne]; exact g2
  have e3 : (k == 3) = false := by rw [beq_eq_false_iff_ne]; exact g3
  go_enter Tryz.func111, Tryz.ntmps111
  go_wp2
  go_ret
  exact ⟨by rw [HR.out]; rfl, (Below.refl _ _).alloc (Nat.le_refl _) _⟩

def geC (c x : Int) : Bool := decide (c ≤ x)
theorem sz_a (n : Int) (h0 : -1099511627776 ≤ n) (h1 : n ≤ 1099511627776) : nw9 n.natAbs ≤ 100000000 := by
  have h2 : n.natAbs < B9 ^ 2 := by unfold B9; omega
  have := (nw_le9 _ _).2 h2
  omega
set_option maxRecDepth 100000 in
set_option maxHeartbeats 4000000 in
theorem r_Check2 (n d : Int) (s : ByteArray) (w : World) :
    Calls Tryz.prog 111 #[V 2 n d s] w fun e w' => e = .returned (.int .i64 (errB (okB 2 n d s))) ∧ Below w.heap.size w w' := by
  have hE : errB (okB 2 n d s) = errB (decide (s.toList = [] ∧ Low n d)) := by congr 1
  rw [hE]
  clear hE
  generalize hE : errB (decide (s.toList = [] ∧ Low n d)) = E
  have h9 : (1 ≤ d ∧ d ≤ 1099511627776 ∧ -1099511627776 ≤ n ∧ n ≤ 1099511627776 ∧ s.toList = []) ∨ ¬ 1 ≤ d ∨ (1 ≤ d ∧ ¬ d ≤ 1099511627776) ∨ (1 ≤ d ∧ d ≤ 1099511627776 ∧ ¬ -1099511627776 ≤ n) ∨ (1 ≤ d ∧ d ≤ 1099511627776 ∧ -1099511627776 ≤ n ∧ ¬ n ≤ 1099511627776) ∨
      (1 ≤ d ∧ d ≤ 1099511627776 ∧ -1099511627776 ≤ n ∧ n ≤ 1099511627776 ∧ ¬ s.toList = []) := by
    by_cases h4 : s.toList = [] <;> simp [h4] <;> omega
  rcases h9 with ⟨h1, h2, h3, h4, h5⟩ | h1 | ⟨h1, h2⟩ | ⟨h1, h2, h3⟩ | ⟨h1, h2, h3, h4⟩ | ⟨h1, h2, h3, h4, h5⟩
  · have hE2 : E = errB (isOneB (Nat.gcd n.natAbs d.natAbs)) := by
      rw [← hE]
      congr 1
      unfold Low isOneB
      simp [h1, h2, h3, h4, h5]
      rw [Bool.eq_iff_iff]; simp
    have HE2 := Lib.hid hE2
    have HC1 := Lib.hid (cmp_one (Nat.gcd n.natAbs d.natAbs))
    have HSn := Lib.hid (fun W => r_size W n (by omega) (by omega))
    have HSd := Lib.hid (fun W => r_size W d (by omega) (by omega))
    have HNn := Lib.hid (sz_a n h3 h4)
    have HNd := Lib.hid (sz_a d (by omega) h2)
    obtain ⟨W, b, hW, hb, hlt, hbel, K⟩ := box_facts w 2 n d s
    have HBel := Lib.hid hbel
    have KK : Hid (∀ W', Below W.heap.size W W' → W'.cell? ⟨w.heap.size, 0, none⟩ = some (.int .i64 2) ∧ W'.cell? ⟨w.heap.size, 1, none⟩ = some (.int .i64 n) ∧ W'.cell? ⟨w.heap.size, 2, none⟩ = some (.int .i64 d) ∧ W'.cell? ⟨w.heap.size, 3, none⟩ = some (.string s)) := by
      rw [hb]; exact K.out
    clear hE hE2 K hb hlt hbel
    go_enter Tryz.func111, Tryz.ntmps111
    obtain ⟨k0, k1, k2, k3⟩ := KK.out W (Below.refl _ _)
    go_wp2_with fail
    have B0d : Below W.heap.size W W.drew := Below.drew (Below.refl _ _)
    clear k0 k1 k2 k3
    go_region_held3 (fun w' => w'.cell? ⟨w.heap.size, 0, none⟩ = some (.int .i64 2) ∧ w'.cell? ⟨w.heap.size, 1, none⟩ = some (.int .i64 n) ∧ w'.cell? ⟨w.heap.size, 2, none⟩ = some (.int .i64 d) ∧ w'.cell? ⟨w.heap.size, 3, none⟩ = some (.string s))
      (first | exact KK.out _ B5 | exact KK.out _ B4 | exact KK.out _ B3 | exact KK.out _ B2 | exact KK.out _ B1 | exact KK.out _ B0d | exact KK.out _ (Below.refl _ _))
      (first
        | (go_at_call_of 135 (Value.int IntKind.i64 n); refine (HSn.out _).mono ?_; rintro e w1 ⟨v1, rfl, hv1, hb1⟩; have B1 : Below W.heap.size W w1 := btr B0d hb1)
        | (go_at_call_of 135 (Value.int IntKind.i64 d); refine (HSd.out _).mono ?_; rintro e w2 ⟨v2, rfl, hv2, hb2⟩; have B2 : Below W.heap.size W w2 := btr B1 hb2)
        | (go_at_call 134; refine (r_common _ v1 v2 _ _ (hv1.below hb2) hv2 HNn.out HNd.out).mono ?_; rintro e w3 ⟨v3, rfl, hv3, hb3⟩; have B3 : Below W.heap.size W w3 := btr B2 hb3)
        | (go_at_call 136; refine (r_one _).mono ?_; rintro e w4 ⟨v4, rfl, hv4, hb4⟩; have B4 : Below W.heap.size W w4 := btr B3 hb4)
        | (go_at_call 133; refine (r_cmpN _ v3 v4 _ 1 (hv3.below hb4) hv4).mono ?_; rintro e w5 ⟨rfl, nd, rfl⟩; have B5 : Below W.heap.size W (w4.drewN nd) := below_drewN B4 nd))
    all_goals
      have HB5 := Lib.hid (btr HBel.out B5)
      rw [HC1.out]
      clear hv1 hv2 hv3 hv4 hb1 hb2 hb3 hb4 B1 B2 B3 B4 B5 B0d
      generalize w4.drewN nd = w5 at *
      generalize isOneB (Nat.gcd n.natAbs d.natAbs) = ob at *
      cases ob
      all_goals
        go_wp2
        go_ret
        exact ⟨by rw [HE2.out]; rfl, HB5.out⟩
  all_goals
    have HR : Hid (E = 2) := by
      show _ = _; rw [← hE]
      first
      | simp [errB, h5]
      | (have h9 : ¬ Low n d := fun h => by
           obtain ⟨a1, a2, a3, a4, a5⟩ := h
           omega
         simp [errB, h9])
    try (have h8 : s.toList.isEmpty = false := by rw [List.isEmpty_eq_false_iff]; exact h5)
    clear hE
    have r1 : ∀ c, decide (c ≤ d) = geC c d := fun _ => rfl
    have r2 : ∀ c, decide (d ≤ c) = geC d c := fun _ => rfl
    have r3 : ∀ c, decide (c ≤ n) = geC c n := fun _ => rfl
    have r4 : ∀ c, decide (n ≤ c) = geC n c := fun _ => rfl
    first
    | (have a1 : geC 1 d = false := decide_eq_false h1; clear h1)
    | (have a1 : geC 1 d = true := decide_eq_true h1; clear h1)
    try first
    | (have a2 : geC d 1099511627776 = false := decide_eq_false h2; clear h2)
    | (have a2 : geC d 1099511627776 = true := decide_eq_true h2; clear h2)
    try first
    | (have a3 : geC (-1099511627776) n = false := decide_eq_false h3; clear h3)
    | (have a3 : geC (-1099511627776) n = true := decide_eq_true h3; clear h3)
    try first
    | (have a4 : geC n 1099511627776 = false := decide_eq_false h4; clear h4)
    | (have a4 : geC n 1099511627776 = true := decide_eq_true h4; clear h4)
    obtain ⟨W, b, hW, hb, hlt, hbel, K⟩ := box_facts w 2 n d s
    have HBel := Lib.hid hbel
    obtain ⟨k0, k1, k2, k3⟩ := K.out W (Below.refl _ _)
    rw [← hb] at k0 k1 k2 k3
    clear K hb hlt hbel
    go_enter Tryz.func111, Tryz.ntmps111
    go_wp2_with fail
    go_quiet (fail)
    go_wp2
    go_ret
    exact ⟨by rw [HR.out]; rfl, below_drewN HBel.out _⟩
end Go.Proofs.YtogmbehomilalaaGreatDoor
end

/- The reference's Check of texts, and of whatever value. -/
section
namespace Go.Proofs.YtogmbehomilalaaGreatDoor
open Go.RowKit Go.Deep

/-- Are the first k bytes those of a text? -/
def txtTo (s : ByteArray) (k : Nat) : Bool := (List.range k).all fun i => decide (32 ≤ ((s.data.toList[i]?.getD 0).toNat : Int)) && decide (((s.data.toList[i]?.getD 0).toNat : Int) ≤ 126)
theorem txtTo_succ (s : ByteArray) (k : Nat) (h : k < s.size) : txtTo s (k + 1) = (txtTo s k && (decide (32 ≤ (s[k].toNat : Int)) && decide ((s[k].toNat : Int) ≤ 126))) := by
  unfold txtTo
  rw [List.range_succ, List.all_append]
  have e : s.data.toList[k]?.getD 0 = s[k] := by
    rw [Array.getElem?_toList, Array.getElem?_eq_getElem h]
    rfl
  simp only [List.all_cons, List.all_nil, Bool.and_true, e]
theorem txtTo_all (s : ByteArray) : decide (Txt s) = (decide (s.size ≤ 16) && txtTo s s.size) := by
  have e : ∀ i (hi : i < s.size), s.data.toList[i]?.getD 0 = s[i] := fun i hi => by
    rw [Array.getElem?_toList, Array.getElem?_eq_getElem hi]
    rfl
  have h1 : Txt s ↔ (decide (s.size ≤ 16) && txtTo s s.size) = true := by
    simp only [decide_eq_true_eq, Bool.and_eq_true, txtTo, List.all_eq_true, List.mem_range]
    constructor
    · rintro ⟨a, b⟩
      exact ⟨a, fun i hi => by rw [e i hi]; exact b i hi⟩
    · rintro ⟨a, b⟩
      refine ⟨a, fun i hi => ?_⟩
      have h9 := b i hi
      rw [e i hi] at h9
      exact h9
  rcases hb : (decide (s.size ≤ 16) && txtTo s s.size) with _ | _
  · exact decide_eq_false fun h => by rw [h1, hb] at h; cases h
  · exact decide_eq_true (h1.2 hb)

set_option maxRecDepth 100000 in
set_option maxHeartbeats 4000000 in
theorem r_Check3 (n d : Int) (s : ByteArray) (w : World) (hs : s.size ≤ 9223372036854775807) :
    Calls Tryz.prog 111 #[V 3 n d s] w fun e w' => e = .returned (.int .i64 (errB (okB 3 n d s))) ∧ Below w.heap.size w w' := by
  have hE : errB (okB 3 n d s) = errB (((n == 0) && (d == 0) && decide (s.size ≤ 16)) && txtTo s s.size) := by
    congr 1
    have h1 : okB 3 n d s = decide (n = 0 ∧ d = 0 ∧ Txt s) := rfl
    rw [h1, Bool.and_assoc, ← txtTo_all, Bool.eq_iff_iff]
    simp [and_assoc]
  rw [hE]
  clear hE
  obtain ⟨W, b, hW, hb, hlt, hbel, K⟩ := box_facts w 3 n d s
  have HBel := Lib.hid hbel
  have KK : Hid (∀ W', Below W.heap.size W W' → W'.cell? ⟨w.heap.size, 0, none⟩ = some (.int .i64 3) ∧ W'.cell? ⟨w.heap.size, 1, none⟩ = some (.int .i64 n) ∧ W'.cell? ⟨w.heap.size, 2, none⟩ = some (.int .i64 d) ∧ W'.cell? ⟨w.heap.size, 3, none⟩ = some (.string s)) := by
    rw [hb]; exact K.out
  clear K hb hlt hbel
  obtain ⟨k0, k1, k2, k3⟩ := KK.out W (Below.refl _ _)
  have h9 : (n = 0 ∧ d = 0 ∧ s.size ≤ 16) ∨ ¬ n = 0 ∨ (n = 0 ∧ ¬ d = 0) ∨ (n = 0 ∧ d = 0 ∧ ¬ s.size ≤ 16) := by omega
  obtain ⟨c0, hc0⟩ : ∃ c0, ((n == 0) && (d == 0) && decide (s.size ≤ 16)) = c0 := ⟨_, rfl⟩
  rw [hc0]
  have HS := Lib.hid hs
  clear hs
  rcases h9 with ⟨rfl, rfl, h3⟩ | h1 | ⟨rfl, h2⟩ | ⟨rfl, rfl, h3⟩
  all_goals
    first
    | (have hcv : c0 = true := by rw [← hc0]; simp [h3])
    | (have hcv : c0 = false := by rw [← hc0]; simp [h1])
    | (have hcv : c0 = false := by rw [← hc0]; simp [h2])
    | (have hcv : c0 = false := by rw [← hc0]; simp [h3])
    clear hc0
    obtain ⟨cc, hcc⟩ : ∃ cc, cc = c0 := ⟨_, rfl⟩
    rw [← hcc]
    have HCV := Lib.hid (hcc.trans hcv)
    clear hcc hcv
    generalize hEE : errB (cc && txtTo s s.size) = E
    have HEE := Lib.hid hEE
    clear hEE
    try (have h1' : (n == 0) = false := by rw [beq_eq_false_iff_ne]; exact h1)
    try (have h2' : (d == 0) = false := by rw [beq_eq_false_iff_ne]; exact h2)
    have r0 : ∀ c, decide ((s.size : Int) ≤ c) = geC s.size c := fun _ => rfl
    try first
    | (have a0 : geC s.size 16 = true := decide_eq_true (by omega : (s.size : Int) ≤ 16))
    | (have a0 : geC s.size 16 = false := decide_eq_false (by omega : ¬ (s.size : Int) ≤ 16))
    try clear h3
    go_enter Tryz.func111, Tryz.ntmps111
    go_wp2_with fail
    clear k0 k1 k2 k3
    go_loopw [3, 4] (fun is i wr => ∃ (k : Nat) (c : Bool), k ≤ s.size ∧ i = .int .i64 k ∧ is = .bool c ∧ Hid (c = (cc && txtTo s k)) ∧ ∃ nd, wr = W.drewN nd) (fun _ i _ => s.size - (intOf i).toNat)
    case atStart => exact ⟨0, _, Nat.zero_le _, rfl, rfl, by show _ = _; rw [HCV.out]; simp [txtTo], 0, rfl⟩
    case round =>
      obtain ⟨k, c, hk, rfl, rfl, HC, nd, rfl⟩ := hrel
      have HBd : Hid (Below W.heap.size W (W.drewN nd)) := below_drewN (Below.refl _ _) nd
      obtain ⟨k0, k1, k2, k3⟩ := KK.out _ HBd.out
      by_cases hlt : k < s.size
      · have HStep := Lib.hid (txtTo_succ s k hlt)
        have hkk : k < 9223372036854775807 := by have := HS.out; omega
        have r5 : ∀ c, decide (c ≤ (s[k].toNat : Int)) = geC c s[k].toNat := fun _ => rfl
        have r6 : ∀ c, decide ((s[k].toNat : Int) ≤ c) = geC s[k].toNat c := fun _ => rfl
        have h9 : c = false ∨ (c = true ∧ geC 32 s[k].toNat = false) ∨ (c = true ∧ geC 32 s[k].toNat = true ∧ geC s[k].toNat 126 = false) ∨ (c = true ∧ geC 32 s[k].toNat = true ∧ geC s[k].toNat 126 = true) := by
          cases c <;> cases geC 32 s[k].toNat <;> cases geC s[k].toNat 126 <;> simp
        rcases h9 with rfl | ⟨rfl, g1⟩ | ⟨rfl, g1, g2⟩ | ⟨rfl, g1, g2⟩
        all_goals
          go_wp2
          go_roundw
          case rel =>
            refine ⟨k + 1, _, by omega, by go_num, rfl, ?_, nd, rfl⟩
            show _ = _
            rw [HStep.out, ← Bool.and_assoc, ← HC.out]
            first
            | rfl
            | (show _ = (true && (geC 32 s[k].toNat && geC s[k].toNat 126)); simp [g1, g2])
            | (show _ = (true && (geC 32 s[k].toNat && geC s[k].toNat 126)); simp [g1])
            | simp
          case measure => simp [intOf]; omega
      · obtain rfl : k = s.size := by omega
        have HCe := HC.out
        have hE9 := HEE.out
        rw [← HCe] at hE9
        have HE9 := Lib.hid hE9
        clear HC HCe hE9
        cases c
        all_goals
          go_wp2
          go_ret
          exact ⟨by rw [← HE9.out]; rfl, btr HBel.out HBd.out⟩

theorem r_Check (k n d : Int) (s : ByteArray) (w : World) (hs : s.size ≤ 9223372036854775807) :
    Calls Tryz.prog 111 #[V k n d s] w fun e w' => e = .returned (.int .i64 (errB (okB k n d s))) ∧ Below w.heap.size w w' := by
  by_cases h0 : k = 0
  · subst h0; exact r_Check0 n d s w
  by_cases h1 : k = 1
  · subst h1; exact r_Check1 n d s w
  by_cases h2 : k = 2
  · subst h2; exact r_Check2 n d s w
  by_cases h3 : k = 3
  · subst h3; exact r_Check3 n d s w hs
  exact r_CheckX k n d s w h0 h1 h2 h3
end Go.Proofs.YtogmbehomilalaaGreatDoor
end

/- The reference's sums of two numbers. -/
section
namespace Go.Proofs.YtogmbehomilalaaGreatDoor
open Go.RowKit Go.Deep

end Go.Proofs.YtogmbehomilalaaGreatDoor
end

/- The reference's Fits and Number, whatever the value. -/
section
namespace Go.Proofs.YtogmbehomilalaaGreatDoor
open Go.RowKit Go.Deep

end Go.Proofs.YtogmbehomilalaaGreatDoor
end

/- The reference's Fits, whatever the value. -/
section
namespace Go.Proofs.YtogmbehomilalaaGreatDoor
open Go.RowKit Go.Deep

set_option maxRecDepth 100000 in
set_option maxHeartbeats 8000000 in
theorem r_Fits (k n d : Int) (s : ByteArray) (t : Int) (w : World) (hs : s.size ≤ 9223372036854775807) :
    Calls Tryz.prog 73 #[V k n d s, .int .i64 t] w fun e w' => e = .returned (.bool (isTy t && (okB k n d s && fitB k d t))) ∧ Below w.heap.size w w' := by
  obtain ⟨W, b, hW, hb, hlt, hbel, K⟩ := box_facts w k n d s
  have HBel := Lib.hid hbel
  have KK : Hid (∀ W', Below W.heap.size W W' → W'.cell? ⟨w.heap.size, 0, none⟩ = some (.int .i64 k) ∧ W'.cell? ⟨w.heap.size, 1, none⟩ = some (.int .i64 n) ∧ W'.cell? ⟨w.heap.size, 2, none⟩ = some (.int .i64 d) ∧ W'.cell? ⟨w.heap.size, 3, none⟩ = some (.string s)) := by
    rw [hb]; exact K.out
  have HC := Lib.hid (fun W => r_Check k n d s W hs)
  clear K hb hlt hbel hs
  generalize hE : (isTy t && (okB k n d s && fitB k d t)) = E
  obtain ⟨k0, k1, k2, k3⟩ := KK.out W (Below.refl _ _)
  by_cases hok : okB k n d s = true
  · have hk : k = 0 ∨ k = 1 ∨ k = 2 ∨ k = 3 := by
      by_cases h0 : k = 0
      · exact .inl h0
      by_cases h1 : k = 1
      · exact .inr (.inl h1)
      by_cases h2 : k = 2
      · exact .inr (.inr (.inl h2))
      by_cases h3 : k = 3
      · exact .inr (.inr (.inr h3))
      simp [okB, h0, h1, h2, h3] at hok
    have HC0 : Hid (∀ W, Calls Tryz.prog 111 #[V k n d s] W fun e w' => e = .returned (.int .i64 0) ∧ Below W.heap.size W w') := fun W => by
      have h9 := HC.out W
      rw [hok] at h9
      exact h9
    rw [hok, Bool.true_and] at hE
    clear hok HC
    have ht : t < 1 ∨ 4 < t ∨ t = 1 ∨ t = 2 ∨ t = 3 ∨ t = 4 := by omega
    rcases hk with rfl | rfl | rfl | rfl
    all_goals
      rcases ht with ht | ht | rfl | rfl | rfl | rfl
    all_goals
      first
      | (have HE : Hid (E = false) := by
           show _ = _
           rw [← hE]
           first
           | (simp [isTy, fitB]; done)
           | (simp [isTy]; omega)
         clear hE
         go_enter Tryz.func73, Tryz.ntmps73
         go_wp2_with fail
         refine (HC0.out W).mono ?_
         rintro e w1 ⟨rfl, hb1⟩
         have HB1 := Lib.hid (btr HBel.out hb1)
         obtain ⟨q0, q1, q2, q3⟩ := KK.out _ hb1
         clear hb1 k0 k1 k2 k3
         go_wp2
         go_ret
         exact ⟨by rw [HE.out]; rfl, HB1.out⟩)
      | (have HE : Hid (E = true) := by
           show _ = _
           rw [← hE]
           simp [isTy, fitB]
         clear hE
         go_enter Tryz.func73, Tryz.ntmps73
         go_wp2_with fail
         refine (HC0.out W).mono ?_
         rintro e w1 ⟨rfl, hb1⟩
         have HB1 := Lib.hid (btr HBel.out hb1)
         obtain ⟨q0, q1, q2, q3⟩ := KK.out _ hb1
         clear hb1 k0 k1 k2 k3
         go_wp2
         go_ret
         exact ⟨by rw [HE.out]; rfl, HB1.out⟩)
      | (have HE : Hid (E = (d == 1)) := by
           show _ = _
           rw [← hE]
           simp [isTy, fitB]
         clear hE
         go_enter Tryz.func73, Tryz.ntmps73
         go_wp2_with fail
         refine (HC0.out W).mono ?_
         rintro e w1 ⟨rfl, hb1⟩
         have HB1 := Lib.hid (btr HBel.out hb1)
         obtain ⟨q0, q1, q2, q3⟩ := KK.out _ hb1
         clear hb1 k0 k1 k2 k3
         go_wp2
         go_ret
         exact ⟨by rw [HE.out]; rfl, HB1.out⟩)
  · have HC0 : Hid (∀ W, Calls Tryz.prog 111 #[V k n d s] W fun e w' => e = .returned (.int .i64 2) ∧ Below W.heap.size W w') := fun W => by
      have h9 := HC.out W
      rw [show okB k n d s = false by simpa using hok] at h9
      exact h9
    have HE : Hid (E = false) := by
      show _ = _
      rw [← hE, show okB k n d s = false by simpa using hok]
      simp
    clear hok HC hE
    go_enter Tryz.func73, Tryz.ntmps73
    go_wp2_with fail
    refine (HC0.out W).mono ?_
    rintro e w1 ⟨rfl, hb1⟩
    have HB1 := Lib.hid (btr HBel.out hb1)
    clear hb1 k0 k1 k2 k3
    go_wp2
    go_ret
    exact ⟨by rw [HE.out]; rfl, HB1.out⟩

end Go.Proofs.YtogmbehomilalaaGreatDoor
end
