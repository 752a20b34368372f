/- Rational numbers in memory: making one, and the plain questions to it. -/
import Derived.Test.YtogmbehomilalaaGreatDoorZGcd
import Derived.Deep.RegionHeld3
import Derived.LaidEqlPtr
import Derived.Deep.DeepCutAuto
import Derived.Lib.Builder
import Derived.Lib.AppendStr
import Derived.Lib.UnsafeStr
import Derived.Laws.Externs
import Derived.Test.YtogmbehomilalaaGreatDoorProg
import Derived.RangeFuncNested
import Derived.RangeFuncFrom
import Derived.RangeFuncBound
import Derived.RangeFuncCalls
import Derived.RangeFuncLeaves

/- Rational numbers in memory: making one, and the plain questions to it. -/
section
namespace Go.Proofs.YtogmbehomilalaaGreatDoor
open Go.RowKit Go.Deep

/-- The value v points to a number of the package: its sign, its numerator and its denominator. -/
def RatAt (w : World) (v : Value) (neg : Bool) (n d : Nat) : Prop := ∃ b nv dv, v = .pointer (some ⟨b, 0, none⟩) ∧ b < w.heap.size ∧ w.cell? ⟨b, 0, none⟩ = some (.pointer (some ⟨b, 0, none⟩)) ∧
  w.cell? ⟨b, 1, none⟩ = some (.bool neg) ∧ w.cell? ⟨b, 2, none⟩ = some nv ∧ w.cell? ⟨b, 3, none⟩ = some dv ∧ NatAt w nv n ∧ NatAt w dv d
theorem RatAt.below {w w' : World} {v : Value} {neg : Bool} {n d : Nat} (h : RatAt w v neg n d) (hb : Below w.heap.size w w') : RatAt w' v neg n d := by
  obtain ⟨b, nv, dv, e, hlt, h0, h1, h2, h3, hn, hd⟩ := h
  exact ⟨b, nv, dv, e, Nat.lt_of_lt_of_le hlt hb.size, (hb.cell (p := ⟨b, 0, none⟩) hlt).trans h0, (hb.cell (p := ⟨b, 1, none⟩) hlt).trans h1, (hb.cell (p := ⟨b, 2, none⟩) hlt).trans h2, (hb.cell (p := ⟨b, 3, none⟩) hlt).trans h3, hn.below hb, hd.below hb⟩
theorem RatAt.drewN {w : World} {v : Value} {neg : Bool} {n d : Nat} (h : RatAt w v neg n d) (k : Nat) : RatAt (w.drewN k) v neg n d := h
theorem btr {a b c : World} (h : Below a.heap.size a b) (k : Below b.heap.size b c) : Below a.heap.size a c := h.trans (k.mono h.size)
def RatRet (w : World) (neg : Bool) (n d : Nat) (e : Ending) (w' : World) : Prop := ∃ u, e = .returned u ∧ RatAt w' u neg n d ∧ Below w.heap.size w w'
def sgn (neg : Bool) (n : Nat) : Bool := neg && decide (0 < n)

set_option maxHeartbeats 1000000 in
theorem c_made (w : World) (nv dv : Value) (neg : Bool) (n d : Nat) (hn : NatAt w nv n) (hd : NatAt w dv d) :
    Calls Tryz.prog 163 #[.bool neg, nv, dv] w (RatRet w (sgn neg n) n d) := by
  have hN := hn
  have hD := hd
  obtain ⟨A, c, rfl, h1, h2, h3⟩ := hn
  obtain ⟨A', c', rfl, h1', h2', h3'⟩ := hd
  have HN := Lib.hid hN
  have HD := Lib.hid hD
  clear hN hD h1 h2 h3 h1' h2' h3'
  have KEY : Hid (∀ s : Bool, s = sgn neg n → RatRet w (sgn neg n) n d (.returned (.pointer (some ⟨w.heap.size, 0, none⟩))) (w.alloc (.cells #[.pointer (some ⟨w.heap.size, 0, none⟩), .bool s, .slice A (nw n) c, .slice A' (nw d) c'] 214))) := by
    intro s hs
    have hbel : Below w.heap.size w (w.alloc (.cells #[.pointer (some ⟨w.heap.size, 0, none⟩), .bool s, .slice A (nw n) c, .slice A' (nw d) c'] 214)) := (Below.refl _ _).alloc (Nat.le_refl _) _
    have hh := heap_alloc_new w (.cells #[.pointer (some ⟨w.heap.size, 0, none⟩), .bool s, .slice A (nw n) c, .slice A' (nw d) c'] 214)
    subst hs
    refine ⟨_, rfl, ⟨w.heap.size, _, _, rfl, by simp, ?_, ?_, ?_, ?_, HN.out.below hbel, HD.out.below hbel⟩, hbel⟩ <;> (rw [cell_of_row _ _ _ _ _ _ hh]; rfl)
  cases neg
  · generalize nw n = m at *
    generalize nw d = m' at *
    clear HN HD
    go_enter Tryz.func163, Tryz.ntmps163
    go_wp2
    go_ret
    exact KEY.out false rfl
  · by_cases h0 : n = 0
    · have HS : Hid (false = sgn true n) := by show false = (true && decide (0 < n)); rw [h0]; rfl
      have hm : ¬ 0 < nw n := by rw [nw_pos]; omega
      have hm' : decide (0 < nw n) = false := by simp [hm]
      clear h0
      generalize nw n = m at *
      generalize nw d = m' at *
      clear HN HD
      go_enter Tryz.func163, Tryz.ntmps163
      go_wp2
      go_ret
      exact KEY.out false HS.out
    · have HS : Hid (true = sgn true n) := by show true = (true && decide (0 < n)); simp; omega
      have hm : 0 < nw n := by rw [nw_pos]; omega
      have hm' : decide (0 < nw n) = true := by simp [hm]
      clear h0
      generalize nw n = m at *
      generalize nw d = m' at *
      clear HN HD
      go_enter Tryz.func163, Tryz.ntmps163
      go_wp2
      go_ret
      exact KEY.out true HS.out

theorem info_rat : ∃ j, Tryz.prog.info? 214 = some j := Option.isSome_iff_exists.1 (by kernel_rfl)
set_option maxRecDepth 100000 in
set_option maxHeartbeats 400000 in
theorem c_valid (w : World) (v : Value) (neg : Bool) (n d : Nat) (h : RatAt w v neg n d) :
    Calls Tryz.prog 166 #[v] w fun e w' => e = .returned (.bool true) ∧ w = w' := by
  obtain ⟨b, nv, dv, rfl, hlt, h0, _, _, _, _, _⟩ := h
  obtain ⟨j, hj⟩ := info_rat
  have heq := fun W => run_eql_ptr_same (P := Tryz.prog) W ⟨b, 0, none⟩ Tryz.underlying179 hj
  clear hj
  go_enter Tryz.func166, Tryz.ntmps166
  go_wp2
  go_ret
  exact ⟨rfl, rfl⟩
end Go.Proofs.YtogmbehomilalaaGreatDoor
end

/- Sums of rational numbers: what each call returns. -/
section
namespace Go.Proofs.YtogmbehomilalaaGreatDoor
open Go.RowKit Go.Deep

/-- What adding asks for: each division is by a word, and Div64 does it right. -/
structure AddOk (num d1 d2 : Nat) : Prop where
  g1 : Gcds d1 d2
  q1 : Divs d1 (Nat.gcd d1 d2)
  q2 : Divs d2 (Nat.gcd d1 d2)
  g2 : Gcds num (Nat.gcd d1 d2)
  q3 : Divs num (Nat.gcd num (Nat.gcd d1 d2))
  q4 : Divs d2 (Nat.gcd num (Nat.gcd d1 d2))

end Go.Proofs.YtogmbehomilalaaGreatDoor
end

/- A strings.Builder, written to; digits of numbers below 100. -/
section
namespace Go.Proofs.YtogmbehomilalaaGreatDoor
open Go.RowKit Go.Deep

theorem info_bld : (Tryz.prog.info? 113).map (·.size) = some 2 := by kernel_rfl
theorem lies_bld : liesAt Tryz.prog Tryz.prog.depth 113 (2 / Tryz.prog.cellsOf 113) 0 113 1 = true := by kernel_rfl
theorem info_u8 : (Tryz.prog.info? 5).map (fun i => (i.zero, i.size, i.bytes)) = some (some (.int .u8 0), 1, 1) := by kernel_rfl

set_option maxRecDepth 100000 in
set_option maxHeartbeats 400000 in
theorem b_copyCheck_fresh (w : World) (b : Nat) (h0 : w.cell? ⟨b, 0, none⟩ = some (.pointer none)) (hsh : w.shape? b = some (113, 2)) (hfz : w.frozen? ⟨b, 0, none⟩ = false) :
    Calls Tryz.prog 103 #[.pointer (some ⟨b, 0, none⟩)] w fun e w' => e = .returned (.tuple #[]) ∧ w' = w.setCell ⟨b, 0, none⟩ (.pointer (some ⟨b, 0, none⟩)) := by
  obtain ⟨j, hj, hjs⟩ := Option.map_eq_some_iff.1 info_bld
  go_enter Tryz.func103, Tryz.ntmps103
  go_wp2
  rw [Lib.run_to_unsafe w ⟨b, 0, none⟩ Tryz.underlying110 Tryz.underlying175 hj (by rw [hjs]; decide) hsh (Nat.zero_lt_succ 1)]
  simp only [Result.andThen]
  rw [Oper.upon_value]
  go_wp2
  rw [run_callFunc_extern Tryz.func126 (by kernel_rfl) (by kernel_rfl) (by kernel_rfl) (e := Extern.AbiNoEscape.same) (by kernel_rfl)]
  rw [Lib.run_noEscape]
  simp only [Result.andThen]
  rw [Oper.upon_value]
  go_wp2
  rw [Lib.run_from_unsafe w ⟨b, 0, none⟩ Tryz.underlying175 Tryz.underlying110 hj hsh lies_bld]
  simp only [Result.andThen]
  rw [Oper.upon_value]
  go_wp2
  go_end0
  exact ⟨rfl, rfl⟩
set_option maxRecDepth 100000 in
set_option maxHeartbeats 400000 in
theorem b_copyCheck_used (w : World) (b : Nat) (h0 : w.cell? ⟨b, 0, none⟩ = some (.pointer (some ⟨b, 0, none⟩))) :
    Calls Tryz.prog 103 #[.pointer (some ⟨b, 0, none⟩)] w fun e w' => e = .returned (.tuple #[]) ∧ w' = w := by
  obtain ⟨j, hj, _⟩ := Option.map_eq_some_iff.1 info_bld
  go_enter Tryz.func103, Tryz.ntmps103
  go_wp2
  rw [Lib.run_neq_ptr_same w _ Tryz.underlying110 hj]
  go_wp2
  go_end0
  exact ⟨rfl, rfl⟩
theorem b_copyCheck (B b : Nat) (bs : List Value) (w : World) (h : Lib.IsBuilder 113 5 B b bs w) :
    Calls Tryz.prog 103 #[.pointer (some ⟨b, 0, none⟩)] w fun e w' => e = .returned (.tuple #[]) ∧ (Lib.BuilderAt 113 5 B b (.pointer (some ⟨b, 0, none⟩)) bs w' ∧ Below B w w') := by
  rcases h with h | h
  · refine (b_copyCheck_fresh w b h.cell0 h.shape h.frozen0).mono ?_
    rintro e w' ⟨rfl, rfl⟩
    exact ⟨rfl, h.used _, (Below.refl B w).setCell (p := ⟨b, 0, none⟩) h.1 _⟩
  · refine (b_copyCheck_used w b h.cell0).mono ?_
    rintro e w' ⟨rfl, rfl⟩
    exact ⟨rfl, h, Below.refl B _⟩

set_option maxHeartbeats 2000000 in
set_option maxRecDepth 100000 in
theorem b_WriteString (B b : Nat) (bs : List Value) (s : ByteArray) (w : World) (h : Lib.IsBuilder 113 5 B b bs w) (hlen : bs.length + s.size ≤ 140737488355328) (hBw : B ≤ w.heap.size) :
    Calls Tryz.prog 63 #[.pointer (some ⟨b, 0, none⟩), .string s] w fun e w' => e = .returned (.tuple #[.int .i64 s.size, .nilIface]) ∧ (Lib.BuilderAt 113 5 B b (.pointer (some ⟨b, 0, none⟩)) (bs ++ Lib.strCells s) w' ∧ Below B w w') := by
  obtain ⟨i0, hi, hz0, hz1, hz2⟩ := info_parts info_u8
  have HCC := Lib.hid (b_copyCheck B b bs w h)
  go_enter Tryz.func63, Tryz.ntmps63
  go_wp2_with (go_at_call 103; refine HCC.out.mono ?_)
  rintro e w1 ⟨rfl, h1, hb1⟩
  obtain ⟨hB, v, hbk, hown, hne⟩ := h1
  have c0 : w1.cell? ⟨b, 0, none⟩ = some (.pointer (some ⟨b, 0, none⟩)) := by rw [Lib.cell_of_heap hbk]; rfl
  have c1 : w1.cell? ⟨b, 1, none⟩ = some v := by rw [Lib.cell_of_heap hbk]; rfl
  go_wp2_with (at_builtin; refine Lib.wpList_append_own_string _ rfl _ _ 111 9 rfl B 5 i0 Tryz.underlying111 Tryz.underlying9 hi hz0 hz1 hz2 _ _ _ rfl hown s rfl ?c3 ?c4 ?c5 ?_)
  case c3 => unfold maxLen; omega
  case c4 => omega
  case c5 => have := hb1.size; omega
  intro v' w2 hown' hgrow _
  have hlt : b < w1.heap.size := by
    rcases Nat.lt_or_ge b w1.heap.size with h' | h'
    · exact h'
    · simp [Array.getElem?_eq_none h'] at hbk
  have hb2 : w2.heap[b]? = some (.cells #[.pointer (some ⟨b, 0, none⟩), v] 113 (0, 0)) := by
    rw [hgrow.block b hlt (fun e => hne e.symm)]
    exact hbk
  have d0 : w2.cell? ⟨b, 0, none⟩ = some (.pointer (some ⟨b, 0, none⟩)) := by rw [Lib.cell_of_heap hb2]; rfl
  have d1 : w2.cell? ⟨b, 1, none⟩ = some v := by rw [Lib.cell_of_heap hb2]; rfl
  have f1 : w2.frozen? ⟨b, 1, none⟩ = false := Lib.frozen_of_heap hb2 1
  obtain ⟨ao, n', cap, rfl⟩ : ∃ ao n' cap, v' = .slice ao n' cap := by
    rcases hown'.2 with ⟨hv, _⟩ | ⟨g, cap, cur, hv, _⟩
    · exact ⟨_, _, _, hv⟩
    · exact ⟨_, _, _, hv⟩
  go_wp2
  go_ret2
  refine ⟨rfl, ?_, ?_⟩
  · exact Lib.BuilderAt.put (T := 113) (e := 5) hB hb2 (bs' := bs ++ Lib.strCells s) (by simpa [Lib.strCells_length] using hown') (by decide)
  · exact (hb1.grown hgrow (by have := hb1.size; omega) (fun k hk => (hown.lt k hk).1)).setCell (p := ⟨b, 1, none⟩) hB _
end Go.Proofs.YtogmbehomilalaaGreatDoor
end

/- The coordinates of a box in their order: digits of a number whose places have different bases. -/
section
namespace Go.Proofs.YtogmbehomilalaaGreatDoor

/-- How many coordinate lists the dimensions from k on have, m of them. -/
def cntC (e : Nat → Nat) : Nat → Nat → Nat
  | _, 0 => 1
  | k, m + 1 => e k * cntC e (k + 1) m
/-- .. those from k on, of n. -/
def volC (e : Nat → Nat) (n k : Nat) : Nat := cntC e k (n - k)
/-- The digit of place k of the number t. -/
def digC (e : Nat → Nat) (n t k : Nat) : Nat := t / volC e n (k + 1) % e k

theorem volC_end (e : Nat → Nat) (n : Nat) : volC e n n = 1 := by unfold volC; rw [Nat.sub_self]; rfl
theorem volC_step {e : Nat → Nat} {n k : Nat} (h : k < n) : volC e n k = e k * volC e n (k + 1) := by
  unfold volC
  obtain ⟨m, hm⟩ : ∃ m, n - k = m + 1 := ⟨n - k - 1, by omega⟩
  rw [hm, show n - (k + 1) = m by omega]
  rfl
theorem volC_pos {e : Nat → Nat} {n : Nat} (he : ∀ k, k < n → 1 ≤ e k) : ∀ m k, k + m = n → 1 ≤ volC e n k := by
  intro m
  induction m with
  | zero => intro k hk; obtain rfl : k = n := by omega
            rw [volC_end]; exact Nat.le_refl _
  | succ m ih =>
    intro k hk
    rw [volC_step (by omega)]
    exact Nat.mul_pos (he k (by omega)) (ih (k + 1) (by omega))
theorem volC_pos' {e : Nat → Nat} {n k : Nat} (he : ∀ k, k < n → 1 ≤ e k) (hk : k ≤ n) : 1 ≤ volC e n k := volC_pos he (n - k) k (by omega)
theorem volC_dvd {e : Nat → Nat} {n : Nat} : ∀ m k j, k + m = j → j ≤ n → volC e n j ∣ volC e n k := by
  intro m
  induction m with
  | zero => intro k j hk _; obtain rfl : k = j := by omega
            exact Nat.dvd_refl _
  | succ m ih =>
    intro k j hk hj
    rw [volC_step (k := k) (by omega)]
    exact Nat.dvd_trans (ih (k + 1) j (by omega) hj) (Nat.dvd_mul_left _ _)
theorem div_pred {c q t : Nat} (hc : 1 ≤ c) (hq : t + 1 = c * q) : t / c = q - 1 ∧ 1 ≤ q := by
  have h1 : 1 ≤ q := by
    rcases Nat.eq_zero_or_pos q with h | h
    · rw [h, Nat.mul_zero] at hq; omega
    · exact h
  obtain ⟨p, rfl⟩ : ∃ p, q = p + 1 := ⟨q - 1, by omega⟩
  have h2 : t = c * p + (c - 1) := by rw [Nat.mul_add] at hq; omega
  refine ⟨?_, h1⟩
  rw [h2, Nat.mul_add_div (by omega), Nat.div_eq_of_lt (by omega : c - 1 < c)]
  omega
theorem mod_pred_full {q e : Nat} (he : 1 ≤ e) (hq : 1 ≤ q) (h : (q - 1) % e = e - 1) : e ∣ q := by
  obtain ⟨p, rfl⟩ : ∃ p, q = p + 1 := ⟨q - 1, by omega⟩
  have h1 := Nat.div_add_mod p e
  rw [Nat.add_sub_cancel] at h
  exact ⟨p / e + 1, by rw [Nat.mul_add]; omega⟩
theorem mod_pred_less {q e : Nat} (he : 1 ≤ e) (hq : 1 ≤ q) (h : (q - 1) % e ≠ e - 1) : q % e = (q - 1) % e + 1 ∧ q / e = (q - 1) / e := by
  obtain ⟨p, rfl⟩ : ∃ p, q = p + 1 := ⟨q - 1, by omega⟩
  rw [Nat.add_sub_cancel] at h ⊢
  have h1 := Nat.div_add_mod p e
  have h2 := Nat.mod_lt p (by omega : e > 0)
  have h3 : p + 1 = e * (p / e) + (p % e + 1) := by omega
  constructor
  · rw [h3, Nat.mul_add_mod, Nat.mod_eq_of_lt (by omega)]
  · rw [h3, Nat.mul_add_div (by omega), Nat.div_eq_of_lt (by omega : p % e + 1 < e)]; omega
/-- Is the digit of place k the last one, then the carry goes on. -/
theorem carry_on {e : Nat → Nat} {n t k : Nat} (he : ∀ k, k < n → 1 ≤ e k) (hk : k < n) (hd : volC e n (k + 1) ∣ t + 1) (h : digC e n t k = e k - 1) : volC e n k ∣ t + 1 := by
  obtain ⟨q, hq⟩ := hd
  obtain ⟨h1, h2⟩ := div_pred (volC_pos' he (by omega)) hq
  unfold digC at h
  rw [h1] at h
  obtain ⟨p, hp⟩ := mod_pred_full (he k hk) h2 h
  rw [volC_step hk]
  exact ⟨p, by rw [hq, hp, Nat.mul_left_comm, Nat.mul_assoc]⟩
/-- Is it not, then it grows by one; what stands ahead of it stays, what stands behind it is 0. -/
theorem carry_end {e : Nat → Nat} {n t k : Nat} (he : ∀ k, k < n → 1 ≤ e k) (hk : k < n) (hd : volC e n (k + 1) ∣ t + 1) (h : digC e n t k ≠ e k - 1) :
    digC e n (t + 1) k = digC e n t k + 1 ∧ (∀ j, j < k → digC e n (t + 1) j = digC e n t j) ∧ (∀ j, k < j → j < n → digC e n (t + 1) j = 0) := by
  obtain ⟨q, hq⟩ := hd
  have hc := volC_pos' (k := k + 1) he (by omega)
  obtain ⟨h1, h2⟩ := div_pred hc hq
  have h3 : (t + 1) / volC e n (k + 1) = q := by rw [hq, Nat.mul_comm, Nat.mul_div_cancel _ (by omega)]
  have h' := h
  unfold digC at h'
  rw [h1] at h'
  obtain ⟨h4, h5⟩ := mod_pred_less (he k hk) h2 h'
  refine ⟨?_, fun j hj => ?_, fun j hj hjn => ?_⟩
  · unfold digC; rw [h3, h1, h4]
  · obtain ⟨m, hm⟩ : volC e n k ∣ volC e n (j + 1) := volC_dvd (k - (j + 1)) (j + 1) k (by omega) (by omega)
    unfold digC
    rw [hm, volC_step hk, Nat.mul_comm (e k), ← Nat.div_div_eq_div_mul, ← Nat.div_div_eq_div_mul, ← Nat.div_div_eq_div_mul, ← Nat.div_div_eq_div_mul, h3, h1, h5]
  · obtain ⟨m, hm⟩ : volC e n j ∣ volC e n (k + 1) := volC_dvd (j - (k + 1)) (k + 1) j (by omega) (by omega)
    rw [hm, volC_step hjn] at hq
    unfold digC
    rw [hq, show e j * volC e n (j + 1) * m * q = (e j * (m * q)) * volC e n (j + 1) by simp only [Nat.mul_assoc, Nat.mul_comm, Nat.mul_left_comm], Nat.mul_div_cancel _ (by have := volC_pos' (k := j + 1) he (by omega); omega), Nat.mul_mod_right]
theorem dig_last {e : Nat → Nat} {n t k : Nat} (he : ∀ k, k < n → 1 ≤ e k) (hk : k < n) (hd : volC e n k ∣ t + 1) : digC e n t k = e k - 1 := by
  obtain ⟨m, hm⟩ := hd
  rw [volC_step hk, Nat.mul_comm (e k), Nat.mul_assoc] at hm
  obtain ⟨h1, h2⟩ := div_pred (volC_pos' (k := k + 1) he (by omega)) hm
  have h3 := he k hk
  unfold digC
  rw [h1]
  obtain ⟨p, rfl⟩ : ∃ p, m = p + 1 := ⟨m - 1, by rcases Nat.eq_zero_or_pos m with h | h; · rw [h, Nat.mul_zero] at h2; omega
                                                 · omega⟩
  rw [show e k * (p + 1) - 1 = e k * p + (e k - 1) by rw [Nat.mul_add]; omega, Nat.mul_add_mod, Nat.mod_eq_of_lt (by omega)]
theorem digC_lt {e : Nat → Nat} {n t k : Nat} (he : ∀ k, k < n → 1 ≤ e k) (hk : k < n) : digC e n t k < e k := Nat.mod_lt _ (he k hk)
theorem digC_zero (e : Nat → Nat) (n k : Nat) : digC e n 0 k = 0 := by unfold digC; rw [Nat.zero_div, Nat.zero_mod]
end Go.Proofs.YtogmbehomilalaaGreatDoor
end

/- A range over a function that keeps cells of its own between the rounds. -/
section
namespace Go.Proofs.YtogmbehomilalaaGreatDoor
open Go Go.RowKit

/-- What holds goes on holding while memory grows, the block A is written, and a new walk's object turns. -/
def Steps (B A : Nat) (J : World → Prop) : Prop :=
  ∀ W W' row, J W → W.grownBy W' row → (∀ r, row = some r → r = A ∨ (B ≤ r ∧ ∃ o : Obj, W.heap[r]? = some o ∧ o.isWalk = true)) → J W'
/-- .. or any new object that holds no cells turns. -/
def StepsC (B A : Nat) (J : World → Prop) : Prop :=
  ∀ W W' row, J W → W.grownBy W' row → (∀ r, row = some r → r = A ∨ (B ≤ r ∧ ∃ o : Obj, W.heap[r]? = some o ∧ o.isCells = false)) → J W'
theorem StepsC.putObj {B A : Nat} {J : World → Prop} (h : StepsC B A J) {W : World} {l : Nat} {o : Obj} (o' : Obj) (hs : J W) (hB : B ≤ l) (hl : W.heap[l]? = some o) (ho : o.isCells = false) : J (W.putObj l o') :=
  h W _ (some l) hs (grownBy_putObj' W l o') (fun r e => by cases e; exact .inr ⟨hB, o, hl, ho⟩)

/-- What an iterator promises whoever ranges over it: it makes at most N rounds, and keeps a block A of cells of its own. -/
def IterOwn (F : Fence) (n : Nat) (P : Program) (g : Nat) (lb : Array Value) (R : World → Prop) (Y : Nat → Nat → Array Value → World → Prop) (N : Nat) : Prop :=
  ∀ (l : Nat) (J0 : World → Prop) (J : Nat → Nat → World → Prop) (Jx : Nat → World → Prop) (W : World),
    (∀ U U', J0 U → U.grownBy U' none → J0 U') → (∀ A k, W.heap.size ≤ A → Steps W.heap.size A (J A k)) → (∀ A, W.heap.size ≤ A → Steps W.heap.size A (Jx A)) →
    (∀ U, J0 U → R U) → (∀ A k U, J A k U → R U) →
    (∀ A U, J0 U → W.heap.size ≤ A → A < U.heap.size → J A 0 U) →
    (∀ A k args U, k < N → W.heap.size ≤ A → A < U.heap.size → J A k U → Y A k args U → YieldAt F (n - 1) P l args U fun e U' => (e = .returned (.bool true) ∧ J A (k + 1) U' ∧ U'.heap[A]? = U.heap[A]?) ∨ (e = .returned (.bool false) ∧ Jx A U')) →
    J0 W →
    CallsIn F n P g (#[.func (.yield l) #[] #[]] ++ lb) W fun e W' => (∃ v, e = .returned v) ∧ ∃ A, W.heap.size ≤ A ∧ (J A N W' ∨ Jx A W')

/-- How a round's body may be left. -/
def roundOwn (A : Nat) (I : Nat → World → Prop) (Ix : Code → World → Prop) (k : Nat) (W : World) : Exit → Act → World → Prop
  | .normal, _, W' => KeepsOthers W W' ∧ W'.heap[A]? = W.heap[A]? ∧ I k W'
  | .ret, _, W' => KeepsOthers W W' ∧ Ix .ret W'
  | .exit id, _, W' => KeepsOthers W W' ∧ Ix (.exit id) W'
  | .goto t, _, W' => KeepsOthers W W' ∧ Ix (.goto t) W'
  | .panic _, _, _ => False
  | .outgrown, _, _ => False

variable {F : Fence} {n : Nat} {P : Program}

theorem wpIn_range_own {g : Operand} {ps : Array Tmp} {assign body : Code} {Q : Exit → Act → World → Prop} {a : Act} {w : World}
    (hro : F.round = none) (h1 : 1 ≤ n) {gf : Nat} {lb : Array Value} (hg : a.eval g = .func (.func gf) #[] lb) (hFg : F.fn gf) (eg : ∀ args w, (callFunc gf args).run P w = .ok (.enter gf args) w)
    {R : World → Prop} {Y : Nat → Nat → Array Value → World → Prop} {N : Nat} (iter : IterOwn F (n - 1) P gf lb R Y N)
    (hps : ∀ A k args W, Y A k args W → args.size = ps.size)
    (I0 : World → Prop) (I : Nat → Nat → World → Prop) (Ix : Nat → Code → World → Prop) (hI0 : OwnFrom w.heap.size (fun (_ : Unit) => I0)) (hI : ∀ A k, w.heap.size ≤ A → StepsC w.heap.size A (I A k)) (hIx : ∀ A c, w.heap.size ≤ A → StepsC w.heap.size A (Ix A c))
    (hY : OwnFrom w.heap.size (fun (p : Nat × Nat × Array Value) W => Y p.1 p.2.1 p.2.2 W)) (hR0 : ∀ W, I0 W → R W) (hR : ∀ A k W, I A k W → R W) (h0 : I0 w) (hstart : ∀ A W, I0 W → w.heap.size + 2 ≤ A → A < W.heap.size → I A 0 W) (a₁ : Array Value → Act)
    (hassign : ∀ (l : Nat) (A k : Nat) (args : Array Value) (W : World) (K : Act → World → Prop), Y A k args W → K (a₁ args) W →
      assign.wpIn (F.inRound l) (n - 1 - 1) P (Exit.then K (fun _ _ _ => False)) { tmps := (ps.zip args).foldl (fun t (p, v) => t.setIfInBounds p v) a.tmps, defers := [] } W)
    (hbody : ∀ (l : Nat) (A k : Nat) (args : Array Value) (W : World), k < N → w.heap.size + 2 ≤ A → A < W.heap.size → I A k W → Y A k args W → body.wpIn (F.inRound l) (n - 1 - 1) P (roundOwn A (I A) (Ix A) (k + 1) W) (a₁ args) W)
    (hdone : ∀ (D A : Nat) (W : World), w.heap.size ≤ D → I A N W → W.heap[D]? = some (.deferred (some [])) → Q .normal { a with defers := { target := .collected D, args := #[] } :: a.defers } W)
    (hstop : ∀ (D A : Nat) (c : Code) (W : World), w.heap.size ≤ D → Ix A c W → W.heap[D]? = some (.deferred (some [])) → c.wpIn F n P Q { a with defers := { target := .collected D, args := #[] } :: a.defers } W) :
    (Code.rangeFunc g ps assign body).wpIn F n P Q a w := by
  refine wpIn_rangeFunc fun fn hfn => ?_
  rw [hro]
  obtain ⟨rc, hrc⟩ : ∃ rc : LoopState → Option Code → Loop, rc = fun st pe => { state := st, pending := pe, fn, tmps := a.tmps, params := ps, assign, body, defers := w.heap.size } := ⟨_, rfl⟩
  obtain ⟨W1, hW1⟩ : ∃ W1, (w.alloc (.deferred (some []))).alloc (.loop (rc .ready none)) = W1 := ⟨_, rfl⟩
  have hz1 : W1.heap.size = w.heap.size + 2 := by rw [← hW1]; simp
  have hL1 : W1.heap[w.heap.size + 1]? = some (.loop (rc .ready none)) := by
    rw [← hW1]; have := World.alloc_heap_new (w.alloc (.deferred (some []))) (.loop (rc .ready none)); rwa [World.size_alloc] at this
  have hK1 : W1.heap[w.heap.size]? = some (.deferred (some [])) := by
    rw [← hW1]; exact (Below.heap_alloc _ _ _ (by simp)).trans (World.alloc_heap_new w _)
  have hI1 : I0 W1 := by rw [← hW1]; exact hI0.alloc (s := ()) _ (hI0.alloc (s := ()) _ h0)
  refine ⟨w.heap.size + 1, [{ target := .collected w.heap.size, args := #[] }], W1, { target := .fn (.func gf) lb, args := #[.func (.yield (w.heap.size + 1)) #[] #[]] }, W1, gf,
    #[.func (.yield (w.heap.size + 1)) #[] #[]] ++ lb, W1, ?_, ?_, ?_, ?_, fun _ => h1, ?_⟩
  · rw [← hW1, hrc]; exact run_enterLoop_outer _ _ _ _ _
  · simp only [resolve, hg]
    simp [go_sem]
  · intro f' hf'; simp [Target.leads] at hf'; subst hf'; exact hFg
  · simp [invoke, go_sem, eg]
  · have keep : ∀ {U U' : World} {row : Option Nat} {A k : Nat} {o : Obj}, U.grownBy U' row → W1.heap.size ≤ A → k < W1.heap.size → (∀ r, row = some r → r = A ∨ (W1.heap.size ≤ r ∧ ∃ o : Obj, U.heap[r]? = some o ∧ o.isWalk = true)) → U.heap[k]? = some o → U'.heap[k]? = some o :=
      fun hg hA hk hr h => (hg.block _ (Array.getElem?_eq_some_iff.1 h).1 (fun e => by rcases hr _ e.symm with h1 | ⟨h1, _⟩ <;> omega)).trans h
    have low : ∀ {U : World} {row : Option Nat} {A : Nat}, (∀ r, row = some r → r = A ∨ (W1.heap.size ≤ r ∧ ∃ o : Obj, U.heap[r]? = some o ∧ o.isWalk = true)) → (∀ r, row = some r → r = A ∨ (w.heap.size ≤ r ∧ ∃ o : Obj, U.heap[r]? = some o ∧ o.isCells = false)) :=
      fun hr r e => (hr r e).imp id fun ⟨hB, o, ho, hw⟩ => ⟨by omega, o, ho, Obj.not_cells_of_walk hw⟩
    refine (iter (w.heap.size + 1)
      (fun W => I0 W ∧ W.heap[w.heap.size + 1]? = some (.loop (rc .ready none)) ∧ W.heap[w.heap.size]? = some (.deferred (some [])))
      (fun A k W => I A k W ∧ W.heap[w.heap.size + 1]? = some (.loop (rc .ready none)) ∧ W.heap[w.heap.size]? = some (.deferred (some [])))
      (fun A W => ∃ c, Ix A c W ∧ W.heap[w.heap.size + 1]? = some (.loop (rc .done (some c))) ∧ W.heap[w.heap.size]? = some (.deferred (some [])))
      W1
      (fun U U' hs gr => ⟨hI0 () U U' none hs.1 gr (fun r e => by cases e), (gr.block _ (Array.getElem?_eq_some_iff.1 hs.2.1).1 (by simp)).trans hs.2.1, (gr.block _ (Array.getElem?_eq_some_iff.1 hs.2.2).1 (by simp)).trans hs.2.2⟩)
      (fun A k hA U U' row hs gr hr => ⟨hI A k (by omega) U U' row hs.1 gr (low hr), keep gr hA (by omega) hr hs.2.1, keep gr hA (by omega) hr hs.2.2⟩)
      (fun A hA U U' row hs gr hr => by
        obtain ⟨c, hc, hl, hk⟩ := hs
        exact ⟨c, hIx A c (by omega) U U' row hc gr (low hr), keep gr hA (by omega) hr hl, keep gr hA (by omega) hr hk⟩)
      (fun U hj => hR0 U hj.1)
      (fun A k U hj => hR A k U hj.1)
      (fun A U hj hA hU => ⟨hstart A U hj.1 (by omega) hU, hj.2⟩)
      ?_ ⟨hI1, hL1, hK1⟩).mono ?_
    · rintro A k args W hk hA hAl ⟨hi, hl, hd⟩ hy
      have hlt : w.heap.size + 1 < W.heap.size := (Array.getElem?_eq_some_iff.1 hl).1
      have run := run_yield (P := P) (args := args) hl (by rw [hrc]; exact hps A k args W hy)
      rw [hrc] at run
      have yb : Y A k args (W.putObj (w.heap.size + 1) (.loop { rc .ready none with state := .busy })) := hY.putObj (s := (A, k, args)) _ hy (by omega) hl rfl
      refine ⟨fn, _, assign, body, run, roundIn_of_wpIn hfn (hassign _ A k args W _ hy ⟨_, run_beginRound hl (by rw [hrc]), ?_⟩)⟩
      have hl2 : (W.putObj (w.heap.size + 1) (.loop { rc .ready none with state := .busy })).heap[w.heap.size + 1]? = some (.loop { rc .ready none with state := .busy }) := World.putObj_heap_same hlt
      have hd2 : (W.putObj (w.heap.size + 1) (.loop { rc .ready none with state := .busy })).heap[w.heap.size]? = some (.deferred (some [])) := (World.putObj_heap_other (by omega)).trans hd
      refine wpIn_mono (hbody _ A k args _ hk (by omega) (by simpa [World.putObj] using hAl) ((hI A k (by omega)).putObj _ hi (by omega) hl rfl) yb) ?_
      have fin : ∀ (jump : Option Code) (W3 : World), KeepsOthers (W.putObj (w.heap.size + 1) (.loop { rc .ready none with state := .busy })) W3 →
          (Instr.endRound (w.heap.size + 1) jump).run P W3 = .ok (.bool jump.isNone) (W3.putObj (w.heap.size + 1) (.loop (rc (if jump.isNone then .ready else .done) jump))) ∧
          W3.heap[w.heap.size + 1]? = some (.loop { rc .ready none with state := .busy }) ∧
          (W3.putObj (w.heap.size + 1) (.loop (rc (if jump.isNone then .ready else .done) jump))).heap[w.heap.size + 1]? = some (.loop (rc (if jump.isNone then .ready else .done) jump)) ∧
          (W3.putObj (w.heap.size + 1) (.loop (rc (if jump.isNone then .ready else .done) jump))).heap[w.heap.size]? = some (.deferred (some [])) := fun jump W3 kept => by
        have hl3 := kept.same _ _ hl2 rfl
        have er := run_endRound (P := P) jump hl3
        rw [hrc] at er ⊢
        exact ⟨er, by rw [hrc] at hl3; exact hl3, World.putObj_heap_same (Array.getElem?_eq_some_iff.1 hl3).1, (World.putObj_heap_other (by omega)).trans (kept.same _ _ hd2 rfl)⟩
      rintro e a3 W3 hp
      cases e with
      | normal =>
        obtain ⟨kept, hA3, hi3⟩ := hp
        obtain ⟨er, hl3, hl4, hd4⟩ := fin none W3 kept
        exact ⟨_, _, er, .inl ⟨rfl, ⟨(hI A _ (by omega)).putObj _ hi3 (by omega) hl3 rfl, hl4, hd4⟩, (World.putObj_heap_other (by omega)).trans (hA3.trans (World.putObj_heap_other (by omega)))⟩⟩
      | ret =>
        obtain ⟨kept, hi3⟩ := hp
        obtain ⟨er, hl3, hl4, hd4⟩ := fin (some .ret) W3 kept
        exact ⟨_, _, er, .inr ⟨rfl, .ret, (hIx A _ (by omega)).putObj _ hi3 (by omega) hl3 rfl, hl4, hd4⟩⟩
      | exit id =>
        obtain ⟨kept, hi3⟩ := hp
        obtain ⟨er, hl3, hl4, hd4⟩ := fin (some (.exit id)) W3 kept
        exact ⟨_, _, er, .inr ⟨rfl, .exit id, (hIx A _ (by omega)).putObj _ hi3 (by omega) hl3 rfl, hl4, hd4⟩⟩
      | goto t =>
        obtain ⟨kept, hi3⟩ := hp
        obtain ⟨er, hl3, hl4, hd4⟩ := fin (some (.goto t)) W3 kept
        exact ⟨_, _, er, .inr ⟨rfl, .goto t, (hIx A _ (by omega)).putObj _ hi3 (by omega) hl3 rfl, hl4, hd4⟩⟩
      | panic ch => exact hp.elim
      | outgrown => exact hp.elim
    · rintro e W2 ⟨⟨v, rfl⟩, A, hA, (⟨hi, hl, hd⟩ | ⟨c, hi, hl, hd⟩)⟩
      · exact ⟨none, _, by have := run_endLoop (P := P) hl (by rw [hrc]; simp); rw [hrc] at this; exact this, hdone _ A _ (Nat.le_refl _) ((hI A _ (by omega)).putObj _ hi (by omega) hl rfl) ((World.putObj_heap_other (by omega)).trans hd)⟩
      · exact ⟨some c, _, by have := run_endLoop (P := P) hl (by rw [hrc]; simp); rw [hrc] at this; exact this, hstop _ A c _ (Nat.le_refl _) ((hIx A _ (by omega)).putObj _ hi (by omega) hl rfl) ((World.putObj_heap_other (by omega)).trans hd)⟩
end Go.Proofs.YtogmbehomilalaaGreatDoor
end
