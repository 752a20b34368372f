/- A range over a function, where the body knows each element by its place and by what memory holds of it. -/
import Derived.RangeFuncNested
import Derived.RangeFuncFrom
import Derived.RangeFuncBound
import Derived.RangeFuncCalls
import Derived.RangeFuncLeaves
import Derived.Test.YthppcklegdnjdaaGreatDoorZRing
import Derived.Shelf.Abstract
import Derived.Shelf.RegionOpen
import Derived.WalkKit
import Derived.OwnWalkIn
import Derived.TacticsInMore
import Derived.LoopNIn
import Derived.LoopIn

/- A range over a function, where the body knows each element by its place and by what memory holds of it. -/
section
namespace Go.Proofs.YthppcklegdnjdaaGreatDoor
open Go Go.RowKit

/-- What an iterator promises whoever ranges over it: it makes at most N rounds; R: what it reads, and what each round must leave as it is; Y k: what holds of the arguments of round k. -/
def IterAt (F : Fence) (n : Nat) (P : Program) (g : Nat) (lb : Array Value) (R : World → Prop) (Y : Nat → Array Value → World → Prop) (N : Nat) : Prop :=
  ∀ (l : Nat) (J : Nat → World → Prop) (Jx : Unit → World → Prop) (W : World), AbidesFrom W.heap.size J → AbidesFrom W.heap.size Jx → (∀ k W', J k W' → R W') →
    (∀ k args W1, k < N → J k W1 → Y k args W1 → YieldAt F (n - 1) P l args W1 fun e W' => (e = .returned (.bool true) ∧ J (k + 1) W') ∨ (e = .returned (.bool false) ∧ Jx () W')) →
    J 0 W →
    CallsIn F n P g (#[.func (.yield l) #[] #[]] ++ lb) W fun e W' => (∃ v, e = .returned v) ∧ (J N W' ∨ Jx () W')

/-- How a round's body may be left. -/
def roundAt (I : Nat → World → Prop) (Ix : Code → World → Prop) (k : Nat) (W : World) : Exit → Act → World → Prop
  | .normal, _, W' => KeepsOthers W W' ∧ I k W'
  | .ret, _, W' => KeepsOthers W W' ∧ Ix .ret W'
  | .exit id, _, W' => KeepsOthers W W' ∧ Ix (.exit id) W'
  | .goto t, _, W' => KeepsOthers W W' ∧ Ix (.goto t) W'
  | .panic _, _, _ => False
  | .outgrown, _, _ => False

variable {F : Fence} {n : Nat} {P : Program}

theorem wpIn_range_at {g : Operand} {ps : Array Tmp} {assign body : Code} {Q : Exit → Act → World → Prop} {a : Act} {w : World}
    (hro : F.round = none) (h1 : 1 ≤ n) {gf : Nat} {lb : Array Value} (hg : a.eval g = .func (.func gf) #[] lb) (hFg : F.fn gf) (eg : ∀ args w, (callFunc gf args).run P w = .ok (.enter gf args) w)
    {R : World → Prop} {Y : Nat → Array Value → World → Prop} {N : Nat} (iter : IterAt F (n - 1) P gf lb R Y N)
    (hps : ∀ k args W, Y k args W → args.size = ps.size)
    (I : Nat → World → Prop) (Ix : Code → World → Prop) (hI : OwnFrom w.heap.size I) (hIx : OwnFrom w.heap.size Ix) (hY : OwnFrom w.heap.size (fun (p : Nat × Array Value) W => Y p.1 p.2 W)) (hR : ∀ k W, I k W → R W) (h0 : I 0 w) (a₁ : Array Value → Act)
    (hassign : ∀ (l : Nat) (k : Nat) (args : Array Value) (W : World) (K : Act → World → Prop), Y k args W → K (a₁ args) W →
      assign.wpIn (F.inRound l) (n - 1 - 1) P (Exit.then K (fun _ _ _ => False)) { tmps := (ps.zip args).foldl (fun t (p, v) => t.setIfInBounds p v) a.tmps, defers := [] } W)
    (hbody : ∀ (l : Nat) (k : Nat) (args : Array Value) (W : World), k < N → I k W → Y k args W → body.wpIn (F.inRound l) (n - 1 - 1) P (roundAt I Ix (k + 1) W) (a₁ args) W)
    (hdone : ∀ (D : Nat) (W : World), w.heap.size ≤ D → I N W → W.heap[D]? = some (.deferred (some [])) → Q .normal { a with defers := { target := .collected D, args := #[] } :: a.defers } W)
    (hstop : ∀ (D : Nat) (c : Code) (W : World), w.heap.size ≤ D → Ix c W → W.heap[D]? = some (.deferred (some [])) → c.wpIn F n P Q { a with defers := { target := .collected D, args := #[] } :: a.defers } W) :
    (Code.rangeFunc g ps assign body).wpIn F n P Q a w := by
  refine wpIn_rangeFunc fun fn hfn => ?_
  rw [hro]
  obtain ⟨rc, hrc⟩ : ∃ rc : LoopState → Option Code → Loop, rc = fun st pe => { state := st, pending := pe, fn, tmps := a.tmps, params := ps, assign, body, defers := w.heap.size } := ⟨_, rfl⟩
  obtain ⟨W1, hW1⟩ : ∃ W1, (w.alloc (.deferred (some []))).alloc (.loop (rc .ready none)) = W1 := ⟨_, rfl⟩
  have hz1 : W1.heap.size = w.heap.size + 2 := by rw [← hW1]; simp
  have hL1 : W1.heap[w.heap.size + 1]? = some (.loop (rc .ready none)) := by
    rw [← hW1]; have := World.alloc_heap_new (w.alloc (.deferred (some []))) (.loop (rc .ready none)); rwa [World.size_alloc] at this
  have hK1 : W1.heap[w.heap.size]? = some (.deferred (some [])) := by
    rw [← hW1]; exact (Below.heap_alloc _ _ _ (by simp)).trans (World.alloc_heap_new w _)
  have hI1 : I 0 W1 := by rw [← hW1]; exact hI.alloc _ (hI.alloc _ h0)
  refine ⟨w.heap.size + 1, [{ target := .collected w.heap.size, args := #[] }], W1, { target := .fn (.func gf) lb, args := #[.func (.yield (w.heap.size + 1)) #[] #[]] }, W1, gf,
    #[.func (.yield (w.heap.size + 1)) #[] #[]] ++ lb, W1, ?_, ?_, ?_, ?_, fun _ => h1, ?_⟩
  · rw [← hW1, hrc]; exact run_enterLoop_outer _ _ _ _ _
  · simp only [resolve, hg]
    simp [go_sem]
  · intro f' hf'; simp [Target.leads] at hf'; subst hf'; exact hFg
  · simp [invoke, go_sem, eg]
  · have low : ∀ {A : World} {row : Option Nat}, (∀ r, row = some r → W1.heap.size ≤ r ∧ ∃ o : Obj, A.heap[r]? = some o ∧ o.isWalk = true) → (∀ r, row = some r → w.heap.size ≤ r ∧ ∃ o : Obj, A.heap[r]? = some o ∧ o.isCells = false) :=
      fun hr r e => by obtain ⟨hB, o, ho, hw⟩ := hr r e; exact ⟨by omega, o, ho, Obj.not_cells_of_walk hw⟩
    refine (iter (w.heap.size + 1)
      (fun k W => I k W ∧ W.heap[w.heap.size + 1]? = some (.loop (rc .ready none)) ∧ W.heap[w.heap.size]? = some (.deferred (some [])))
      (fun _ W => ∃ c, Ix c W ∧ W.heap[w.heap.size + 1]? = some (.loop (rc .done (some c))) ∧ W.heap[w.heap.size]? = some (.deferred (some [])))
      W1
      (fun s A B row hs gr hr => ⟨hI s A B row hs.1 gr (low hr), (grownBy_keeps gr (fun r e => (hr r e).2) hs.2.1 rfl).trans hs.2.1, (grownBy_keeps gr (fun r e => (hr r e).2) hs.2.2 rfl).trans hs.2.2⟩)
      (fun s A B row hs gr hr => by
        obtain ⟨c, hc, hl, hk⟩ := hs
        exact ⟨c, hIx c A B row hc gr (low hr), (grownBy_keeps gr (fun r e => (hr r e).2) hl rfl).trans hl, (grownBy_keeps gr (fun r e => (hr r e).2) hk rfl).trans hk⟩)
      (fun k W' hj => hR k W' hj.1)
      ?_ ⟨hI1, hL1, hK1⟩).mono ?_
    · rintro k args W hk ⟨hi, hl, hd⟩ hy
      have hlt : w.heap.size + 1 < W.heap.size := (Array.getElem?_eq_some_iff.1 hl).1
      have run := run_yield (P := P) (args := args) hl (by rw [hrc]; exact hps k args W hy)
      rw [hrc] at run
      have yb : Y k args (W.putObj (w.heap.size + 1) (.loop { rc .ready none with state := .busy })) := hY.putObj (s := (k, args)) _ hy (by omega) hl rfl
      refine ⟨fn, _, assign, body, run, roundIn_of_wpIn hfn (hassign _ k args W _ hy ⟨_, run_beginRound hl (by rw [hrc]), ?_⟩)⟩
      have hl2 : (W.putObj (w.heap.size + 1) (.loop { rc .ready none with state := .busy })).heap[w.heap.size + 1]? = some (.loop { rc .ready none with state := .busy }) := World.putObj_heap_same hlt
      have hd2 : (W.putObj (w.heap.size + 1) (.loop { rc .ready none with state := .busy })).heap[w.heap.size]? = some (.deferred (some [])) := (World.putObj_heap_other (by omega)).trans hd
      refine wpIn_mono (hbody _ k args _ hk (hI.putObj _ hi (by omega) hl rfl) yb) ?_
      have fin : ∀ (jump : Option Code) (W3 : World), KeepsOthers (W.putObj (w.heap.size + 1) (.loop { rc .ready none with state := .busy })) W3 →
          (Instr.endRound (w.heap.size + 1) jump).run P W3 = .ok (.bool jump.isNone) (W3.putObj (w.heap.size + 1) (.loop (rc (if jump.isNone then .ready else .done) jump))) ∧
          W3.heap[w.heap.size + 1]? = some (.loop { rc .ready none with state := .busy }) ∧
          (W3.putObj (w.heap.size + 1) (.loop (rc (if jump.isNone then .ready else .done) jump))).heap[w.heap.size + 1]? = some (.loop (rc (if jump.isNone then .ready else .done) jump)) ∧
          (W3.putObj (w.heap.size + 1) (.loop (rc (if jump.isNone then .ready else .done) jump))).heap[w.heap.size]? = some (.deferred (some [])) := fun jump W3 kept => by
        have hl3 := kept.same _ _ hl2 rfl
        have er := run_endRound (P := P) jump hl3
        rw [hrc] at er ⊢
        exact ⟨er, by rw [hrc] at hl3; exact hl3, World.putObj_heap_same (Array.getElem?_eq_some_iff.1 hl3).1, (World.putObj_heap_other (by omega)).trans (kept.same _ _ hd2 rfl)⟩
      rintro e a3 W3 hp
      cases e with
      | normal =>
        obtain ⟨kept, hi3⟩ := hp
        obtain ⟨er, hl3, hl4, hd4⟩ := fin none W3 kept
        exact ⟨_, _, er, .inl ⟨rfl, hI.putObj _ hi3 (by omega) hl3 rfl, hl4, hd4⟩⟩
      | ret =>
        obtain ⟨kept, hi3⟩ := hp
        obtain ⟨er, hl3, hl4, hd4⟩ := fin (some .ret) W3 kept
        exact ⟨_, _, er, .inr ⟨rfl, .ret, hIx.putObj _ hi3 (by omega) hl3 rfl, hl4, hd4⟩⟩
      | exit id =>
        obtain ⟨kept, hi3⟩ := hp
        obtain ⟨er, hl3, hl4, hd4⟩ := fin (some (.exit id)) W3 kept
        exact ⟨_, _, er, .inr ⟨rfl, .exit id, hIx.putObj _ hi3 (by omega) hl3 rfl, hl4, hd4⟩⟩
      | goto t =>
        obtain ⟨kept, hi3⟩ := hp
        obtain ⟨er, hl3, hl4, hd4⟩ := fin (some (.goto t)) W3 kept
        exact ⟨_, _, er, .inr ⟨rfl, .goto t, hIx.putObj _ hi3 (by omega) hl3 rfl, hl4, hd4⟩⟩
      | panic ch => exact hp.elim
      | outgrown => exact hp.elim
    · rintro e W2 ⟨⟨v, rfl⟩, (⟨hi, hl, hd⟩ | ⟨c, hi, hl, hd⟩)⟩
      · exact ⟨none, _, by have := run_endLoop (P := P) hl (by rw [hrc]; simp); rw [hrc] at this; exact this, hdone _ _ (Nat.le_refl _) (hI.putObj _ hi (by omega) hl rfl) ((World.putObj_heap_other (by omega)).trans hd)⟩
      · exact ⟨some c, _, by have := run_endLoop (P := P) hl (by rw [hrc]; simp); rw [hrc] at this; exact this, hstop _ c _ (Nat.le_refl _) (hIx.putObj _ hi (by omega) hl rfl) ((World.putObj_heap_other (by omega)).trans hd)⟩
end Go.Proofs.YthppcklegdnjdaaGreatDoor
end

/- The sum of a list of any numbers: what the call returns. -/
section
namespace Go.Proofs.YthppcklegdnjdaaGreatDoor
open Go Go.RowKit Go.Deep Go.Shelf
attribute [local go_sem] Oper.semAt_some

/-- The sum of the first k numbers. -/
def sumQ (qs : Nat → Rat) : Nat → Rat
  | 0 => 0
  | k + 1 => sumQ qs k + qs k
theorem ratW_add1 {p q : Rat} {a b : Nat} (hp : RatW p a) (hq : RatW q b) : RatW (p + q) (a + b + 1) := by
  obtain ⟨e1, e2⟩ := rat_add p q _ _ _ _ _ rfl rfl rfl rfl rfl
  have g1 : p.num.natAbs * q.den < W64 ^ (a + b) := by
    rw [Nat.pow_add]
    exact Nat.mul_lt_mul'' ((nw_le _ _).1 hp.1) ((nw_le _ _).1 hq.2)
  have g2 : q.num.natAbs * p.den < W64 ^ (a + b) := by
    rw [Nat.pow_add, Nat.mul_comm]
    exact Nat.mul_lt_mul'' ((nw_le _ _).1 hp.2) ((nw_le _ _).1 hq.1)
  have h4 := nw_mul p.den q.den
  refine ⟨?_, ?_⟩
  · rw [e1, nw_le]
    refine Nat.lt_of_le_of_lt (m := p.num.natAbs * q.den + q.num.natAbs * p.den) ?_ ?_
    · refine Nat.le_trans (Int.natAbs_ediv_le_natAbs _ _) ?_
      refine Nat.le_trans (Int.natAbs_add_le _ _) ?_
      rw [Int.natAbs_mul, Int.natAbs_mul, Int.natAbs_natCast, Int.natAbs_natCast]
      exact Nat.add_le_add (Nat.mul_le_mul_left _ (Nat.div_le_self _ _)) (Nat.mul_le_mul_left _ (Nat.div_le_self _ _))
    · have h2 : W64 ^ (a + b) * 2 ≤ W64 ^ (a + b + 1) := by
        rw [Nat.pow_succ]
        exact Nat.mul_le_mul_left _ (by unfold W64; omega)
      omega
  · rw [e2]
    refine Nat.le_trans (nw_mono (y := p.den * q.den) ?_) (by have := hp.2; have := hq.2; omega)
    exact Nat.mul_le_mul (Nat.div_le_self _ _) (Nat.div_le_self _ _)
theorem ratW_zero : RatW 0 1 := ⟨by rw [show (0 : Rat).num.natAbs = 0 from rfl, nw_zero]; omega, by rw [show (0 : Rat).den = 1 from rfl, nw_one 1 (by omega) (by decide)]; omega⟩
theorem sumQ_w (qs : Nat → Rat) (c n : Nat) (h : ∀ k, k < n → RatW (qs k) c) : ∀ k, k ≤ n → RatW (sumQ qs k) (k * (c + 1) + 1)
  | 0, _ => by rw [Nat.zero_mul]; exact ratW_zero
  | k + 1, hk => (ratW_add1 (sumQ_w qs c n h k (by omega)) (h k (by omega))).mono (by rw [Nat.succ_mul]; omega)

theorem natAt_apart {W W' : World} {v : Value} {x s : Nat} (h : NatAt W v x) (h1 : ∀ o, 0 < o → W.cell? ⟨s, o, none⟩ = none) (h0 : ∃ a, W.cell? ⟨s, 0, none⟩ = some (.pointer a))
    (hc : ∀ a y, a.block ≠ s → W.cell? a = some y → W'.cell? a = some y) (hz : W.heap.size ≤ W'.heap.size) : NatAt W' v x := by
  obtain ⟨A, c, e, q1, q2, q3⟩ := h
  refine ⟨A, c, e, q1, q2, fun hn => ?_⟩
  obtain ⟨b, o, e1, e2, e3⟩ := q3 hn
  have hb : b ≠ s := by
    rintro rfl
    have h9 := e3 0 hn
    obtain ⟨a, ha⟩ := h0
    rcases Nat.eq_zero_or_pos o with rfl | ho
    · rw [show 0 + 0 = 0 from rfl, ha] at h9
      cases h9
    · rw [h1 (o + 0) (by omega)] at h9
      cases h9
  exact ⟨b, o, e1, Nat.lt_of_lt_of_le e2 hz, fun k hk => hc _ _ hb (e3 k hk)⟩
/-- A number outlasts a change of a block that is one pointer. -/
theorem ratV_apart {W W' : World} {v : Value} {q : Rat} {s : Nat} (h : RatV W v q) (h1 : ∀ o, 0 < o → W.cell? ⟨s, o, none⟩ = none) (h0 : ∃ a, W.cell? ⟨s, 0, none⟩ = some (.pointer a))
    (hc : ∀ a y, a.block ≠ s → W.cell? a = some y → W'.cell? a = some y) (hz : W.heap.size ≤ W'.heap.size) : RatV W' v q := by
  obtain ⟨b, nv, dv, e, hlt, c0, c1, c2, c3, hn, hd⟩ := h
  have hb : b ≠ s := by
    rintro rfl
    rw [h1 1 (by omega)] at c1
    cases c1
  exact ⟨b, nv, dv, e, Nat.lt_of_lt_of_le hlt hz, hc _ _ hb c0, hc _ _ hb c1, hc _ _ hb c2, hc _ _ hb c3, natAt_apart hn h1 h0 hc hz, natAt_apart hd h1 h0 hc hz⟩

theorem natAt_kept {W W' : World} {v : Value} {x : Nat} (h : NatAt W v x) (hc : ∀ a y, W.cell? a = some y → W'.cell? a = some y) (hz : W.heap.size ≤ W'.heap.size) : NatAt W' v x := by
  obtain ⟨A, c, e, q1, q2, q3⟩ := h
  refine ⟨A, c, e, q1, q2, fun hn => ?_⟩
  obtain ⟨b, o, e1, e2, e3⟩ := q3 hn
  exact ⟨b, o, e1, Nat.lt_of_lt_of_le e2 hz, fun k hk => hc _ _ (e3 k hk)⟩
theorem ratV_kept {W W' : World} {v : Value} {q : Rat} (h : RatV W v q) (hc : ∀ a y, W.cell? a = some y → W'.cell? a = some y) (hz : W.heap.size ≤ W'.heap.size) : RatV W' v q := by
  obtain ⟨b, nv, dv, e, hlt, c0, c1, c2, c3, hn, hd⟩ := h
  exact ⟨b, nv, dv, e, Nat.lt_of_lt_of_le hlt hz, hc _ _ c0, hc _ _ c1, hc _ _ c2, hc _ _ c3, natAt_kept hn hc hz, natAt_kept hd hc hz⟩

/-- What slices.Values reads: the slice that it was given, and its elements. -/
def ReadsV (Bs : Nat) (A : Option Addr) (len cap : Nat) (xs : Nat → Value) (W : World) : Prop :=
  W.cell? ⟨Bs, 0, none⟩ = some (.slice A len cap) ∧ ∀ k, k < len → ∃ b o, A = some ⟨b, o, none⟩ ∧ W.cell? ⟨b, o + k, none⟩ = some (xs k)

set_option maxRecDepth 100000 in
set_option maxHeartbeats 2000000 in
theorem valuesV_iter (F : Fence) (n : Nat) (hF : F.fn 90) (hro : F.round = none) (Bs : Nat) (A : Option Addr) (len cap : Nat) (xs : Nat → Value) (hxs : ∀ k, ∃ a, xs k = .pointer a) (hlen : len ≤ 1000000000) (hn : 1 ≤ n) :
    IterAt F n Tryz.prog 90 #[.pointer (some ⟨Bs, 0, none⟩)] (ReadsV Bs A len cap xs) (fun k args _ => args = #[xs k]) len := by
  intro l J Jx W hJ hJx hR hY h0
  refine callsIn_of_wp Tryz.func90 rfl hF ?_ hro
  simp only [Tryz.ntmps90, List.size_toArray, List.length_cons, List.length_nil, Nat.reduceAdd, Nat.reduceSub, Array.replicate_succ, Array.replicate_zero, List.push_toArray, List.append_toArray, List.nil_append, List.cons_append]
  have hs := (hR 0 W h0).1
  have HR := Lib.hid hR
  have HY := Lib.hid hY
  have HX := Lib.hid hxs
  clear hR hY hxs
  gi_wp2
  gi_loopw [7] (fun i wr => ∃ k : Nat, k ≤ len ∧ i = .int .i64 k ∧ Hid (J k wr)) (fun i _ => len - (intOf i).toNat)
  case atStart => exact ⟨0, Nat.zero_le _, rfl, h0⟩
  case round =>
    obtain ⟨k, hk, rfl, hj⟩ := hrel
    by_cases hlt : k < len
    · obtain ⟨b, o, rfl, hc⟩ := (HR.out k wr hj.out).2 k hlt
      obtain ⟨fn, tmps, assign, body, hy, hround⟩ := HY.out k #[xs k] wr hlt hj.out rfl
      obtain ⟨a, ha⟩ := HX.out k
      rw [ha] at hc hy
      clear ha
      gi_wp2
      refine hround.mono ?_
      rintro e W3 (⟨rfl, hj3⟩ | ⟨rfl, hjx⟩)
      · have HJ3 := Lib.hid hj3
        clear hj3 hround hy hc
        gi_wp2
        go_roundw
        case rel => exact ⟨k + 1, by omega, by go_num, HJ3⟩
        case measure => simp [intOf]; omega
      · have HJX := Lib.hid hjx
        clear hjx hround hy hc
        gi_wp2
        refine bodyPost_ret (results_none rfl _ _ _) rfl ?_
        exact ⟨⟨_, rfl⟩, .inr HJX.out⟩
    · obtain rfl : k = len := by omega
      gi_wp2
      go_end0
      exact ⟨⟨_, rfl⟩, .inl hj.out⟩

theorem cV_values (w : World) (A : Option Addr) (n c : Nat) : Calls Tryz.prog 48 #[.slice A n c] w fun e w' => e = .returned (.func (.func 90) #[] #[.pointer (some ⟨w.heap.size, 0, none⟩)]) ∧ w.alloc (.cells #[.slice A n c] 39) = w' := by
  go_enter Tryz.func48, Tryz.ntmps48
  go_wp2
  go_ret
  exact ⟨rfl, rfl⟩

theorem ltV_of_cell {w : World} {b o : Nat} {v : Value} (h : w.cell? ⟨b, o, none⟩ = some v) : b < w.heap.size := by
  by_cases hb : b < w.heap.size
  · exact hb
  · have : w.heap[b]? = none := Array.getElem?_eq_none (by omega)
    simp [World.cell?, this] at h
theorem keepsV_of_below {W W' : World} (h : Below W.heap.size W W') : KeepsOthers W W' :=
  ⟨h.size, fun k _ hk _ => (h.block k (Array.getElem?_eq_some_iff.1 hk).1).trans hk⟩

theorem ratV_ptr {w : World} {v : Value} {neg : Bool} {n d : Nat} (h : RatAt w v neg n d) : ∃ a, v = .pointer a := by
  obtain ⟨b, _, _, h, _⟩ := h
  exact ⟨_, h⟩
set_option maxRecDepth 100000 in
set_option maxHeartbeats 4000000 in
theorem v_Sum (w : World) (A : Option Addr) (n cap c : Nat) (xs : Nat → Value) (qs : Nat → Rat) (hxs : ∀ k, ∃ a, xs k = .pointer a)
    (hA : ∀ k, k < n → ∃ b o, A = some ⟨b, o, none⟩ ∧ b < w.heap.size ∧ w.cell? ⟨b, o + k, none⟩ = some (xs k)) (hq : ∀ k, k < n → RatV w (xs k) (qs k)) (hw : ∀ k, k < n → RatW (qs k) c)
    (hc1 : n * (c + 1) + 1 ≤ 100000) (hc2 : c ≤ 100000) :
    Calls Tryz.prog 14 #[.slice A n cap] w (RatVRet w (sumQ qs n)) := by
  have HW : Hid (∀ W, Calls Tryz.prog 47 #[.int .u64 1] W (NatRet W 1)) := fun W => n_word W 1 (by decide)
  have HM : Hid (∀ W v, NatAt W v 1 → Calls Tryz.prog 37 #[.bool false, .slice none 0 0, v] W (RatRet W false 0 1)) := fun W v hv => c_made W (.slice none 0 0) v false 0 1 (NatAt.zero W) hv
  have HX := Lib.hid hxs
  have HA := Lib.hid hA
  have HQ := Lib.hid hq
  have HWd := Lib.hid hw
  have HP := Lib.hid (sumQ_w qs c n hw)
  have HC1 := Lib.hid hc1
  have HC2 := Lib.hid hc2
  have hn : n ≤ 1000000000 := by
    have : n * 1 ≤ n * (c + 1) := Nat.mul_le_mul_left _ (by omega)
    omega
  clear hxs hA hq hw hc1 hc2
  refine (callsIn_wide (n := 3)).1 ?_
  refine callsIn_of_wp_marks Tryz.func14 rfl trivial ?_ rfl
  simp only [Tryz.ntmps14, List.size_toArray, List.length_cons, List.length_nil, Nat.reduceAdd, Nat.reduceSub, Array.replicate_succ, Array.replicate_zero, List.push_toArray, List.append_toArray, List.nil_append, List.cons_append]
  gi_wp2_with (first
    | (refine ⟨trivial, ?_⟩; gi_at_call 47; refine (callsIn_wide.2 (HW.out _)).mono ?_; rintro e w1 ⟨u1, rfl, hu1, hb1⟩)
    | (refine ⟨trivial, ?_⟩; gi_at_call 37; refine (callsIn_wide.2 (HM.out _ _ hu1)).mono ?_; rintro e wS ⟨su, rfl, hsu, hbS⟩; obtain ⟨sa, hsa⟩ := ratV_ptr hsu; subst hsa)
    | (refine ⟨trivial, ?_⟩; gi_at_call 48; refine (callsIn_wide.2 (cV_values _ _ _ _)).mono ?_; rintro e wV ⟨rfl, rfl⟩))
  have bw1 : Below w.heap.size w w1 := btr ((Below.refl _ _).alloc (Nat.le_refl _) _) hb1
  have bS : Below w.heap.size w wS := btr bw1 hbS
  have hrS : wS.heap[w.heap.size]? = some (.cells #[.pointer none] 26 (0, 0)) := (hbS.block _ (by have := hb1.size; simp at this; omega)).trans ((hb1.block _ (by simp)).trans (heap_alloc_new w _))
  have hrl : w.heap.size < wS.heap.size := (Array.getElem?_eq_some_iff.1 hrS).1
  have hsz : RatV wS (.pointer sa) 0 := hsu.toV (by decide) (by decide) (by decide)
  have HS := Lib.hid hsz
  have HBS := Lib.hid bS
  have HRS := Lib.hid hrS
  clear hu1 hb1 hbS hsu bw1 bS hrS hsz
  have n0 := heap_alloc_new wS (.cells #[.pointer sa] 26)
  have n1 := heap_alloc_new (wS.alloc (.cells #[.pointer sa] 26)) (.cells #[.slice A n cap] 39)
  rw [World.size_alloc] at n1
  have n0' := (Below.heap_alloc (wS.alloc (.cells #[.pointer sa] 26)) (.cells #[.slice A n cap] 39) wS.heap.size (by simp)).trans n0
  have bL : Below wS.heap.size wS ((wS.alloc (.cells #[.pointer sa] 26)).alloc (.cells #[.slice A n cap] 39)) := ((Below.refl _ _).alloc (Nat.le_refl _) _).alloc (by simp) _
  have zL : ((wS.alloc (.cells #[.pointer sa] 26)).alloc (.cells #[.slice A n cap] 39)).heap.size = wS.heap.size + 2 := by simp
  generalize (wS.alloc (.cells #[.pointer sa] 26)).alloc (.cells #[.slice A n cap] 39) = L at *
  refine wpIn_range_at (gf := 90) (lb := #[.pointer (some ⟨wS.heap.size + 1, 0, none⟩)]) rfl (by omega) rfl trivial (enters_of Tryz.func90 (by kernel_rfl) rfl)
    (valuesV_iter Fence.wide _ trivial rfl (wS.heap.size + 1) A n cap xs HX.out hn (by omega))
    (fun k args W h => by rw [h]; rfl)
    (fun k W => (k ≤ n ∧ W.cell? ⟨wS.heap.size + 1, 0, none⟩ = some (.slice A n cap) ∧ ∃ a, W.heap[wS.heap.size]? = some (.cells #[.pointer a] 26 (0, 0)) ∧ RatV W (.pointer a) (sumQ qs k)) ∧ Below wS.heap.size wS W)
    (fun c W => False ∧ Below w.heap.size w W)
    (OwnFrom.and (Own.from (fun s A B row hs hg hr => by
      obtain ⟨h1, h2, a, h3, h4⟩ := hs
      refine ⟨h1, cell_kept h2 hg hr, a, (grownBy_keeps_cells hg hr h3 rfl).trans h3, ?_⟩
      exact ratV_kept h4 (fun x y hx => cell_kept hx hg hr) hg.size) _) (ownFrom_below (Nat.le_refl _) (by omega)))
    (OwnFrom.and (Own.from (fun s A B row hs hg hr => hs) _) (ownFrom_below (Nat.le_refl _) (by omega)))
    (fun s W W' row hs hg hr => hs) ?reads ?start
    (fun args => { tmps := #[.slice A n cap, undef, .pointer (some ⟨w.heap.size, 0, none⟩), .pointer (some ⟨wS.heap.size, 0, none⟩), args.getD 0 undef, u1, .pointer sa, .slice A n cap, .func (.func 90) #[] #[.pointer (some ⟨wS.heap.size + 1, 0, none⟩)], args.getD 0 undef, undef, undef, undef, undef, undef, undef, undef], defers := [] }) ?assign ?body ?done ?stop
  case reads =>
    rintro k W ⟨⟨_, h1, _⟩, h2⟩
    refine ⟨h1, fun j hj => ?_⟩
    obtain ⟨b, o, rfl, hb, hcell⟩ := HA.out j hj
    have hb' : b < wS.heap.size := Nat.lt_of_lt_of_le hb HBS.out.size
    exact ⟨b, o, rfl, (h2.cell (p := ⟨b, o + j, none⟩) hb').trans ((HBS.out.cell (p := ⟨b, o + j, none⟩) hb).trans hcell)⟩
  case start => exact ⟨⟨by omega, by rw [cell_of_row _ _ _ _ _ _ n1]; rfl, sa, n0', HS.out.below bL⟩, bL⟩
  case assign =>
    rintro l k args W K rfl hK
    gi_wp2
    exact hK
  case body =>
    rintro l k args W hk ⟨⟨hk1, h1, a, h3, h4⟩, hB⟩ rfl
    have hq := ((HQ.out k hk).below HBS.out).below hB
    obtain ⟨xa, hxa⟩ := HX.out k
    rw [hxa] at hq ⊢
    have HV := Lib.hid (c_valid W (.pointer xa) _ _ _ hq)
    have HAd := Lib.hid (v_Add W (.pointer a) (.pointer xa) (sumQ qs k) (qs k) h4 hq ((HP.out k hk1).mono (by have h9 := Nat.mul_le_mul_right (c + 1) hk1; have := HC1.out; omega)) ((HWd.out k hk).mono HC2.out))
    have ha : W.cell? ⟨wS.heap.size, 0, none⟩ = some (.pointer a) := by rw [cell_of_row _ _ _ _ _ _ h3]; rfl
    have hf : W.frozen? ⟨wS.heap.size, 0, none⟩ = false := by simp [World.frozen?, h3]
    have hlt := ltV_of_cell ha
    have H3 := Lib.hid h3
    clear hq h4 h3
    gi_wp2_with (first
      | (refine ⟨trivial, ?_⟩; gi_at_call 38; refine (CallsIn.inRound l (callsIn_wide.2 HV.out)).mono ?_; rintro e w' ⟨rfl, rfl⟩)
      | (refine ⟨trivial, ?_⟩; gi_at_call 15; refine (CallsIn.inRound l (callsIn_wide.2 HAd.out)).mono ?_; rintro e wA ⟨u, rfl, hu, hbA⟩; obtain ⟨ua, hua⟩ := ratV_ptr hu; subst hua; have cA := (hbA.cell (p := ⟨wS.heap.size, 0, none⟩) hlt).trans ha; have fA := (hbA.frozen (p := ⟨wS.heap.size, 0, none⟩) hlt).trans hf))
    have hrA : wA.heap[wS.heap.size]? = some (.cells #[.pointer a] 26 (0, 0)) := (hbA.block _ hlt).trans H3.out
    have hsolo : ∀ o, 0 < o → wA.cell? ⟨wS.heap.size, o, none⟩ = none := fun o ho => by simp [World.cell?, hrA]; omega
    refine ⟨(keepsV_of_below hbA).trans (KeepsOthers.setCell _ _ _), ⟨by omega, ?_, ua, ?_, ?_⟩, (btr hB (hbA.mono (Nat.le_refl _))).setCell (p := ⟨wS.heap.size, 0, none⟩) (Nat.le_refl _) _⟩
    · rw [World.cell?_setCell_other _ _ _ _ (by intro e; injection e with e1; omega), hbA.cell (p := ⟨wS.heap.size + 1, 0, none⟩) (ltV_of_cell h1)]
      exact h1
    · exact heap_setCell_same _ _ _ _ _ _ hrA
    · exact ratV_apart (s := wS.heap.size) hu hsolo ⟨a, cA⟩ (fun x y hne hx => by rw [World.cell?_setCell_other _ _ _ _ (by rintro rfl; exact hne rfl)]; exact hx) (by simp [World.setCell]; first | done | (split <;> simp))
  case done =>
    rintro D W hD ⟨⟨_, _, a, h3, h4⟩, hB⟩ hK
    have ha : W.cell? ⟨wS.heap.size, 0, none⟩ = some (.pointer a) := by rw [cell_of_row _ _ _ _ _ _ h3]; rfl
    have hr := (hB.block _ hrl).trans HRS.out
    have rc : W.cell? ⟨w.heap.size, 0, none⟩ = some (.pointer none) := by rw [cell_of_row _ _ _ _ _ _ hr]; rfl
    have rf : W.frozen? ⟨w.heap.size, 0, none⟩ = false := by simp [World.frozen?, hr]
    have H4 := Lib.hid h4
    have HR := Lib.hid hr
    clear h4 h3 hr
    have hDl : w.heap.size < D := by omega
    have hbelow : Below w.heap.size w W := btr HBS.out hB
    have hK2 : (W.setCell ⟨w.heap.size, 0, none⟩ (.pointer a)).heap[D]? = some (.deferred (some [])) := (heap_setCell_other _ _ _ _ (by show D ≠ w.heap.size; omega)).trans hK
    have hc2 : (W.setCell ⟨w.heap.size, 0, none⟩ (.pointer a)).cell? ⟨w.heap.size, 0, none⟩ = some (.pointer a) := World.cell?_setCell_same' _ _ _ (by rw [rc]; rfl)
    have hv2 : RatV (W.setCell ⟨w.heap.size, 0, none⟩ (.pointer a)) (.pointer a) (sumQ qs n) :=
      ratV_apart (s := w.heap.size) H4.out (fun o ho => by simp [World.cell?, HR.out]; omega) ⟨_, rc⟩ (fun x y hne hx => by rw [World.cell?_setCell_other _ _ _ _ (by rintro rfl; exact hne rfl)]; exact hx) (by simp [World.setCell]; first | done | (split <;> simp))
    have HK2 := Lib.hid hK2
    have HC2' := Lib.hid hc2
    have HV2 := Lib.hid hv2
    have HB2 : Hid (Below w.heap.size w (W.setCell ⟨w.heap.size, 0, none⟩ (.pointer a))) := hbelow.setCell (p := ⟨w.heap.size, 0, none⟩) (Nat.le_refl _) _
    clear hK2 hc2 hv2 hbelow hK
    gi_wp2
    refine ⟨by simp, .inl ⟨_, _, rfl, run_takeDeferred HK2.out, ?_⟩⟩
    have hg := grownBy_putObj' (W.setCell ⟨w.heap.size, 0, none⟩ (.pointer a)) D (.deferred none)
    have hrow : ∀ r, some D = some r → ∃ o : Obj, (W.setCell ⟨w.heap.size, 0, none⟩ (.pointer a)).heap[r]? = some o ∧ o.isCells = false := fun r e => by cases e; exact ⟨_, HK2.out, rfl⟩
    have hc5 := cell_kept HC2'.out hg hrow
    refine ⟨.pointer a, ?_, .pointer a, rfl, ratV_kept HV2.out (fun x y hx => cell_kept hx hg hrow) hg.size, HB2.out.trans (belowK_b (w := w) (Nat.le_refl _) _ D _ _ (by omega) HK2.out rfl rfl)⟩
    simp [results, Tryz.results14, go_sem, hc5]
  case stop =>
    rintro D c W hD ⟨h, _⟩ hK
    exact h.elim
end Go.Proofs.YthppcklegdnjdaaGreatDoor
end
