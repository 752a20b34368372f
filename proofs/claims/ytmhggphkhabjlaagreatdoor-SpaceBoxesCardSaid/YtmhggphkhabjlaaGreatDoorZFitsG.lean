/- Products of rational numbers of any size: what the call returns. -/
import Derived.Test.YtmhggphkhabjlaaGreatDoorZAddG
import Derived.Test.YtmhggphkhabjlaaGreatDoorZPlus
import Derived.Test.YtmhggphkhabjlaaGreatDoorZDoes
import Derived.Test.YtmhggphkhabjlaaGreatDoorZMathD

/- Products of rational numbers of any size: what the call returns. -/
section
namespace Go.Proofs.YtmhggphkhabjlaaGreatDoor
open Go.RowKit Go.Deep

end Go.Proofs.YtmhggphkhabjlaaGreatDoor
end

/- Plain numbers: how sums, products and quotients of rational numbers in lowest terms are found. No condition. -/
section
namespace Go.Proofs.YtmhggphkhabjlaaGreatDoor

end Go.Proofs.YtmhggphkhabjlaaGreatDoor
end

/- Rational numbers of any size, as Lean's own: what each call returns. -/
section
namespace Go.Proofs.YtmhggphkhabjlaaGreatDoor
open Go.RowKit Go.Deep

/-- The value v points to the number q of the package. -/
def RatV (w : World) (v : Value) (q : Rat) : Prop := RatAt w v (decide (q.num < 0)) q.num.natAbs q.den
def RatVRet (w : World) (q : Rat) (e : Ending) (w' : World) : Prop := ∃ u, e = .returned u ∧ RatV w' u q ∧ Below w.heap.size w w'
theorem RatV.below {w w' : World} {v : Value} {q : Rat} (h : RatV w v q) (hb : Below w.heap.size w w') : RatV w' v q := RatAt.below h hb
theorem RatV.drewN {w : World} {v : Value} {q : Rat} (h : RatV w v q) (n : Nat) : RatV (w.drewN n) v q := h
theorem RatAt.toV {w : World} {v : Value} {s : Bool} {n d : Nat} {q : Rat} (h : RatAt w v s n d) (hs : s = decide (q.num < 0)) (hn : n = q.num.natAbs) (hd : d = q.den) : RatV w v q := by
  subst hs hn hd
  exact h
/-- How many words a number has at most. -/
def RatW (q : Rat) (k : Nat) : Prop := nw q.num.natAbs ≤ k ∧ nw q.den ≤ k

end Go.Proofs.YtmhggphkhabjlaaGreatDoor
end

/- The value of any number, and the number of any value. -/
section
namespace Go.Proofs.YtmhggphkhabjlaaGreatDoor
open Go Go.RowKit Go.Deep

instance instLow (n d : Int) : Decidable (Low n d) := by unfold Low; infer_instance
/-- The number of a value. -/
def qV (n d : Int) : Rat := if h : Low n d then ⟨n, d.natAbs, by have := h.2.2.1; omega, h.2.2.2.2⟩ else 0
theorem qV_num {n d : Int} (h : Low n d) : (qV n d).num = n := by unfold qV; rw [dif_pos h]
theorem qV_den {n d : Int} (h : Low n d) : (qV n d).den = d.natAbs := by unfold qV; rw [dif_pos h]
theorem sgn_num (n : Int) : sgn (decide (n < 0)) n.natAbs = decide (n < 0) := by
  unfold sgn
  by_cases h : n < 0
  · rw [decide_eq_true h, Bool.true_and, decide_eq_true_iff]; omega
  · rw [decide_eq_false h]; rfl
theorem v_rat (w : World) (n d : Int) (h : Low n d) : Calls Tryz.prog 114 #[V 2 n d noS] w (RatVRet w (qV n d)) := by
  refine (c_rat w n d h).mono ?_
  rintro e w' ⟨u, rfl, hu, hb⟩
  exact ⟨u, rfl, hu.toV (by rw [qV_num h, sgn_num]) (by rw [qV_num h]) (by rw [qV_den h]), hb⟩
theorem ratW_qV {n d : Int} (h : Low n d) : RatW (qV n d) 1 := by
  have h1 := qV_num h
  have h2 := qV_den h
  obtain ⟨a, b, c, e, _⟩ := h
  refine ⟨?_, ?_⟩
  · rw [h1, nw_le_one]; unfold W64; omega
  · rw [h2, nw_le_one]; unfold W64; omega

def Small (q : Rat) : Prop := q.num.natAbs ≤ 1099511627776 ∧ q.den ≤ 1099511627776
instance (q : Rat) : Decidable (Small q) := by unfold Small; infer_instance
theorem row_v {X : World} {b : Nat} {k n d : Int} {s : ByteArray} (h : X.heap[b]? = some (.cells #[.int .i64 k, .int .i64 n, .int .i64 d, .string s] 116 (0, 0))) :
    X.cell? ⟨b, 0, none⟩ = some (.int .i64 k) ∧ X.cell? ⟨b, 1, none⟩ = some (.int .i64 n) ∧ X.cell? ⟨b, 2, none⟩ = some (.int .i64 d) ∧ X.cell? ⟨b, 3, none⟩ = some (.string s) := by
  refine ⟨?_, ?_, ?_, ?_⟩ <;> (rw [cell_of_row _ _ _ _ _ _ h]; rfl)

end Go.Proofs.YtmhggphkhabjlaaGreatDoor
end

/- Does a value fit a type? Whatever both are. -/
section
namespace Go.Proofs.YtmhggphkhabjlaaGreatDoor
open Go.RowKit Go.Deep

/-- Does a valid value fit a type? -/
def fitB (k d t : Int) : Bool := if k = 0 then true else if t = 1 then k == 1 else if t = 2 then (k == 2 && d == 1) else if t = 3 then k == 2 else k == 3
set_option maxRecDepth 100000 in
set_option maxHeartbeats 2000000 in
theorem k_fits (k n d : Int) (s : ByteArray) (t : Int) (w : World) :
    Calls Tryz.prog 118 #[V k n d s, .int .i64 t] w fun e w' => e = .returned (.bool (fitB k d t)) ∧ Below w.heap.size w w' := by
  have HBE : Hid (Below w.heap.size w (w.alloc (.cells #[.int .i64 k, .int .i64 n, .int .i64 d, .string s] 116))) := (Below.refl _ _).alloc (Nat.le_refl _) _
  by_cases k0 : k = 0
  · subst k0
    rw [show fitB 0 d t = true from if_pos rfl]
    go_enter Tryz.func118, Tryz.ntmps118
    go_wp2
    go_ret
    exact ⟨rfl, HBE.out⟩
  by_cases t1 : t = 1
  · subst t1
    rw [show fitB k d 1 = (k == 1) by simp [fitB, k0]]
    go_enter Tryz.func118, Tryz.ntmps118
    go_wp2
    go_ret
    exact ⟨rfl, HBE.out⟩
  by_cases t2 : t = 2
  · subst t2
    by_cases k2 : k = 2
    · subst k2
      rw [show fitB 2 d 2 = (d == 1) by simp [fitB]]
      go_enter Tryz.func118, Tryz.ntmps118
      go_wp2
      go_ret
      exact ⟨rfl, HBE.out⟩
    · rw [show fitB k d 2 = false by simp [fitB, k0, k2]]
      go_enter Tryz.func118, Tryz.ntmps118
      go_wp2
      go_ret
      exact ⟨rfl, HBE.out⟩
  by_cases t3 : t = 3
  · subst t3
    rw [show fitB k d 3 = (k == 2) by simp [fitB, k0]]
    go_enter Tryz.func118, Tryz.ntmps118
    go_wp2
    go_ret
    exact ⟨rfl, HBE.out⟩
  rw [show fitB k d t = (k == 3) by simp [fitB, k0, t1, t2, t3]]
  go_enter Tryz.func118, Tryz.ntmps118
  go_wp2
  go_ret
  exact ⟨rfl, HBE.out⟩

set_option maxRecDepth 100000 in
set_option maxHeartbeats 2000000 in
theorem k_Fits (k n d : Int) (s : ByteArray) (t : Int) (w : World) :
    Calls Tryz.prog 101 #[V k n d s, .int .i64 t] w fun e w' => e = .returned (.bool (isTy t && (okB k n d s && fitB k d t))) ∧ Below w.heap.size w w' := by
  have HBE : Hid (Below w.heap.size w (w.alloc (.cells #[.int .i64 k, .int .i64 n, .int .i64 d, .string s] 116))) := (Below.refl _ _).alloc (Nat.le_refl _) _
  have HT := Lib.hid (fun W => c_isTypeB t W)
  have HV := Lib.hid (fun W => k_valid k n d s W)
  have HF := Lib.hid (fun W => k_fits k n d s t W)
  cases h1 : isTy t with
  | false =>
    rw [h1] at HT
    rw [show (false && (okB k n d s && fitB k d t)) = false from rfl]
    clear HV HF
    go_enter Tryz.func101, Tryz.ntmps101
    go_wp2_with fail
    refine (HT.out _).mono ?_
    rintro e w1 ⟨rfl, rfl⟩
    go_wp2
    go_ret
    exact ⟨rfl, HBE.out⟩
  | true =>
    rw [h1] at HT
    rw [Bool.true_and]
    cases h2 : okB k n d s with
    | false =>
      rw [h2] at HV
      rw [Bool.false_and]
      clear HF
      go_enter Tryz.func101, Tryz.ntmps101
      go_wp2_with fail
      refine (HT.out _).mono ?_
      rintro e w1 ⟨rfl, rfl⟩
      go_wp2_with fail
      refine (HV.out _).mono ?_
      rintro e w2 ⟨rfl, hb2⟩
      go_wp2
      go_ret
      exact ⟨rfl, HBE.out.trans (hb2.mono HBE.out.size)⟩
    | true =>
      rw [h2] at HV
      rw [Bool.true_and]
      generalize fitB k d t = r at *
      go_enter Tryz.func101, Tryz.ntmps101
      go_wp2_with fail
      refine (HT.out _).mono ?_
      rintro e w1 ⟨rfl, rfl⟩
      go_wp2_with fail
      refine (HV.out _).mono ?_
      rintro e w2 ⟨rfl, hb2⟩
      obtain ⟨x0, x1, x2, x3⟩ := row_v ((hb2.block _ (by simp)).trans (heap_alloc_new w _))
      go_wp2_with fail
      refine (HF.out _).mono ?_
      rintro e w3 ⟨rfl, hb3⟩
      go_wp2
      go_ret
      exact ⟨rfl, HBE.out.trans ((btr hb2 hb3).mono HBE.out.size)⟩
end Go.Proofs.YtmhggphkhabjlaaGreatDoor
end
