/- A range over a function, where the body knows each element by its place and by what memory holds of it. -/
import Derived.RangeFuncNested
import Derived.RangeFuncFrom
import Derived.RangeFuncBound
import Derived.RangeFuncCalls
import Derived.RangeFuncLeaves
import Derived.Test.YtoiihehlgfgikaaGreatDoorZRing
import Derived.Shelf.Abstract
import Derived.Shelf.RegionOpen
import Derived.WalkKit
import Derived.OwnWalkIn
import Derived.TacticsInMore
import Derived.LoopNIn
import Derived.LoopIn
import Derived.Laws.AppendOwn
import Derived.Lib.AppendZeros
import Derived.Below
import Derived.Tactics

/- A range over a function, where the body knows each element by its place and by what memory holds of it. -/
section
namespace Go.Proofs.YtoiihehlgfgikaaGreatDoor
open Go Go.RowKit

/-- What an iterator promises whoever ranges over it: it makes at most N rounds; R: what it reads, and what each round must leave as it is; Y k: what holds of the arguments of round k. -/
def IterAt (F : Fence) (n : Nat) (P : Program) (g : Nat) (lb : Array Value) (R : World → Prop) (Y : Nat → Array Value → World → Prop) (N : Nat) : Prop :=
  ∀ (l : Nat) (J : Nat → World → Prop) (Jx : Unit → World → Prop) (W : World), AbidesFrom W.heap.size J → AbidesFrom W.heap.size Jx → (∀ k W', J k W' → R W') →
    (∀ k args W1, k < N → J k W1 → Y k args W1 → YieldAt F (n - 1) P l args W1 fun e W' => (e = .returned (.bool true) ∧ J (k + 1) W') ∨ (e = .returned (.bool false) ∧ Jx () W')) →
    J 0 W →
    CallsIn F n P g (#[.func (.yield l) #[] #[]] ++ lb) W fun e W' => (∃ v, e = .returned v) ∧ (J N W' ∨ Jx () W')

/-- How a round's body may be left. -/
def roundAt (I : Nat → World → Prop) (Ix : Code → World → Prop) (k : Nat) (W : World) : Exit → Act → World → Prop
  | .normal, _, W' => KeepsOthers W W' ∧ I k W'
  | .ret, _, W' => KeepsOthers W W' ∧ Ix .ret W'
  | .exit id, _, W' => KeepsOthers W W' ∧ Ix (.exit id) W'
  | .goto t, _, W' => KeepsOthers W W' ∧ Ix (.goto t) W'
  | .panic _, _, _ => False
  | .outgrown, _, _ => False

variable {F : Fence} {n : Nat} {P : Program}

theorem wpIn_range_at {g : Operand} {ps : Array Tmp} {assign body : Code} {Q : Exit → Act → World → Prop} {a : Act} {w : World}
    (hro : F.round = none) (h1 : 1 ≤ n) {gf : Nat} {lb : Array Value} (hg : a.eval g = .func (.func gf) #[] lb) (hFg : F.fn gf) (eg : ∀ args w, (callFunc gf args).run P w = .ok (.enter gf args) w)
    {R : World → Prop} {Y : Nat → Array Value → World → Prop} {N : Nat} (iter : IterAt F (n - 1) P gf lb R Y N)
    (hps : ∀ k args W, Y k args W → args.size = ps.size)
    (I : Nat → World → Prop) (Ix : Code → World → Prop) (hI : OwnFrom w.heap.size I) (hIx : OwnFrom w.heap.size Ix) (hY : OwnFrom w.heap.size (fun (p : Nat × Array Value) W => Y p.1 p.2 W)) (hR : ∀ k W, I k W → R W) (h0 : I 0 w) (a₁ : Array Value → Act)
    (hassign : ∀ (l : Nat) (k : Nat) (args : Array Value) (W : World) (K : Act → World → Prop), Y k args W → K (a₁ args) W →
      assign.wpIn (F.inRound l) (n - 1 - 1) P (Exit.then K (fun _ _ _ => False)) { tmps := (ps.zip args).foldl (fun t (p, v) => t.setIfInBounds p v) a.tmps, defers := [] } W)
    (hbody : ∀ (l : Nat) (k : Nat) (args : Array Value) (W : World), k < N → I k W → Y k args W → body.wpIn (F.inRound l) (n - 1 - 1) P (roundAt I Ix (k + 1) W) (a₁ args) W)
    (hdone : ∀ (D : Nat) (W : World), w.heap.size ≤ D → I N W → W.heap[D]? = some (.deferred (some [])) → Q .normal { a with defers := { target := .collected D, args := #[] } :: a.defers } W)
    (hstop : ∀ (D : Nat) (c : Code) (W : World), w.heap.size ≤ D → Ix c W → W.heap[D]? = some (.deferred (some [])) → c.wpIn F n P Q { a with defers := { target := .collected D, args := #[] } :: a.defers } W) :
    (Code.rangeFunc g ps assign body).wpIn F n P Q a w := by
  refine wpIn_rangeFunc fun fn hfn => ?_
  rw [hro]
  obtain ⟨rc, hrc⟩ : ∃ rc : LoopState → Option Code → Loop, rc = fun st pe => { state := st, pending := pe, fn, tmps := a.tmps, params := ps, assign, body, defers := w.heap.size } := ⟨_, rfl⟩
  obtain ⟨W1, hW1⟩ : ∃ W1, (w.alloc (.deferred (some []))).alloc (.loop (rc .ready none)) = W1 := ⟨_, rfl⟩
  have hz1 : W1.heap.size = w.heap.size + 2 := by rw [← hW1]; simp
  have hL1 : W1.heap[w.heap.size + 1]? = some (.loop (rc .ready none)) := by
    rw [← hW1]; have := World.alloc_heap_new (w.alloc (.deferred (some []))) (.loop (rc .ready none)); rwa [World.size_alloc] at this
  have hK1 : W1.heap[w.heap.size]? = some (.deferred (some [])) := by
    rw [← hW1]; exact (Below.heap_alloc _ _ _ (by simp)).trans (World.alloc_heap_new w _)
  have hI1 : I 0 W1 := by rw [← hW1]; exact hI.alloc _ (hI.alloc _ h0)
  refine ⟨w.heap.size + 1, [{ target := .collected w.heap.size, args := #[] }], W1, { target := .fn (.func gf) lb, args := #[.func (.yield (w.heap.size + 1)) #[] #[]] }, W1, gf,
    #[.func (.yield (w.heap.size + 1)) #[] #[]] ++ lb, W1, ?_, ?_, ?_, ?_, fun _ => h1, ?_⟩
  · rw [← hW1, hrc]; exact run_enterLoop_outer _ _ _ _ _
  · simp only [resolve, hg]
    simp [go_sem]
  · intro f' hf'; simp [Target.leads] at hf'; subst hf'; exact hFg
  · simp [invoke, go_sem, eg]
  · have low : ∀ {A : World} {row : Option Nat}, (∀ r, row = some r → W1.heap.size ≤ r ∧ ∃ o : Obj, A.heap[r]? = some o ∧ o.isWalk = true) → (∀ r, row = some r → w.heap.size ≤ r ∧ ∃ o : Obj, A.heap[r]? = some o ∧ o.isCells = false) :=
      fun hr r e => by obtain ⟨hB, o, ho, hw⟩ := hr r e; exact ⟨by omega, o, ho, Obj.not_cells_of_walk hw⟩
    refine (iter (w.heap.size + 1)
      (fun k W => I k W ∧ W.heap[w.heap.size + 1]? = some (.loop (rc .ready none)) ∧ W.heap[w.heap.size]? = some (.deferred (some [])))
      (fun _ W => ∃ c, Ix c W ∧ W.heap[w.heap.size + 1]? = some (.loop (rc .done (some c))) ∧ W.heap[w.heap.size]? = some (.deferred (some [])))
      W1
      (fun s A B row hs gr hr => ⟨hI s A B row hs.1 gr (low hr), (grownBy_keeps gr (fun r e => (hr r e).2) hs.2.1 rfl).trans hs.2.1, (grownBy_keeps gr (fun r e => (hr r e).2) hs.2.2 rfl).trans hs.2.2⟩)
      (fun s A B row hs gr hr => by
        obtain ⟨c, hc, hl, hk⟩ := hs
        exact ⟨c, hIx c A B row hc gr (low hr), (grownBy_keeps gr (fun r e => (hr r e).2) hl rfl).trans hl, (grownBy_keeps gr (fun r e => (hr r e).2) hk rfl).trans hk⟩)
      (fun k W' hj => hR k W' hj.1)
      ?_ ⟨hI1, hL1, hK1⟩).mono ?_
    · rintro k args W hk ⟨hi, hl, hd⟩ hy
      have hlt : w.heap.size + 1 < W.heap.size := (Array.getElem?_eq_some_iff.1 hl).1
      have run := run_yield (P := P) (args := args) hl (by rw [hrc]; exact hps k args W hy)
      rw [hrc] at run
      have yb : Y k args (W.putObj (w.heap.size + 1) (.loop { rc .ready none with state := .busy })) := hY.putObj (s := (k, args)) _ hy (by omega) hl rfl
      refine ⟨fn, _, assign, body, run, roundIn_of_wpIn hfn (hassign _ k args W _ hy ⟨_, run_beginRound hl (by rw [hrc]), ?_⟩)⟩
      have hl2 : (W.putObj (w.heap.size + 1) (.loop { rc .ready none with state := .busy })).heap[w.heap.size + 1]? = some (.loop { rc .ready none with state := .busy }) := World.putObj_heap_same hlt
      have hd2 : (W.putObj (w.heap.size + 1) (.loop { rc .ready none with state := .busy })).heap[w.heap.size]? = some (.deferred (some [])) := (World.putObj_heap_other (by omega)).trans hd
      refine wpIn_mono (hbody _ k args _ hk (hI.putObj _ hi (by omega) hl rfl) yb) ?_
      have fin : ∀ (jump : Option Code) (W3 : World), KeepsOthers (W.putObj (w.heap.size + 1) (.loop { rc .ready none with state := .busy })) W3 →
          (Instr.endRound (w.heap.size + 1) jump).run P W3 = .ok (.bool jump.isNone) (W3.putObj (w.heap.size + 1) (.loop (rc (if jump.isNone then .ready else .done) jump))) ∧
          W3.heap[w.heap.size + 1]? = some (.loop { rc .ready none with state := .busy }) ∧
          (W3.putObj (w.heap.size + 1) (.loop (rc (if jump.isNone then .ready else .done) jump))).heap[w.heap.size + 1]? = some (.loop (rc (if jump.isNone then .ready else .done) jump)) ∧
          (W3.putObj (w.heap.size + 1) (.loop (rc (if jump.isNone then .ready else .done) jump))).heap[w.heap.size]? = some (.deferred (some [])) := fun jump W3 kept => by
        have hl3 := kept.same _ _ hl2 rfl
        have er := run_endRound (P := P) jump hl3
        rw [hrc] at er ⊢
        exact ⟨er, by rw [hrc] at hl3; exact hl3, World.putObj_heap_same (Array.getElem?_eq_some_iff.1 hl3).1, (World.putObj_heap_other (by omega)).trans (kept.same _ _ hd2 rfl)⟩
      rintro e a3 W3 hp
      cases e with
      | normal =>
        obtain ⟨kept, hi3⟩ := hp
        obtain ⟨er, hl3, hl4, hd4⟩ := fin none W3 kept
        exact ⟨_, _, er, .inl ⟨rfl, hI.putObj _ hi3 (by omega) hl3 rfl, hl4, hd4⟩⟩
      | ret =>
        obtain ⟨kept, hi3⟩ := hp
        obtain ⟨er, hl3, hl4, hd4⟩ := fin (some .ret) W3 kept
        exact ⟨_, _, er, .inr ⟨rfl, .ret, hIx.putObj _ hi3 (by omega) hl3 rfl, hl4, hd4⟩⟩
      | exit id =>
        obtain ⟨kept, hi3⟩ := hp
        obtain ⟨er, hl3, hl4, hd4⟩ := fin (some (.exit id)) W3 kept
        exact ⟨_, _, er, .inr ⟨rfl, .exit id, hIx.putObj _ hi3 (by omega) hl3 rfl, hl4, hd4⟩⟩
      | goto t =>
        obtain ⟨kept, hi3⟩ := hp
        obtain ⟨er, hl3, hl4, hd4⟩ := fin (some (.goto t)) W3 kept
        exact ⟨_, _, er, .inr ⟨rfl, .goto t, hIx.putObj _ hi3 (by omega) hl3 rfl, hl4, hd4⟩⟩
      | panic ch => exact hp.elim
      | outgrown => exact hp.elim
    · rintro e W2 ⟨⟨v, rfl⟩, (⟨hi, hl, hd⟩ | ⟨c, hi, hl, hd⟩)⟩
      · exact ⟨none, _, by have := run_endLoop (P := P) hl (by rw [hrc]; simp); rw [hrc] at this; exact this, hdone _ _ (Nat.le_refl _) (hI.putObj _ hi (by omega) hl rfl) ((World.putObj_heap_other (by omega)).trans hd)⟩
      · exact ⟨some c, _, by have := run_endLoop (P := P) hl (by rw [hrc]; simp); rw [hrc] at this; exact this, hstop _ c _ (Nat.le_refl _) (hIx.putObj _ hi (by omega) hl rfl) ((World.putObj_heap_other (by omega)).trans hd)⟩
end Go.Proofs.YtoiihehlgfgikaaGreatDoor
end

/- The sum of a list of any numbers: what the call returns. -/
section
namespace Go.Proofs.YtoiihehlgfgikaaGreatDoor
open Go Go.RowKit Go.Deep Go.Shelf
attribute [local go_sem] Oper.semAt_some

/-- The sum of the first k numbers. -/
def sumQ (qs : Nat → Rat) : Nat → Rat
  | 0 => 0
  | k + 1 => sumQ qs k + qs k
theorem ratW_add1 {p q : Rat} {a b : Nat} (hp : RatW p a) (hq : RatW q b) : RatW (p + q) (a + b + 1) := by
  obtain ⟨e1, e2⟩ := rat_add p q _ _ _ _ _ rfl rfl rfl rfl rfl
  have g1 : p.num.natAbs * q.den < W64 ^ (a + b) := by
    rw [Nat.pow_add]
    exact Nat.mul_lt_mul'' ((nw_le _ _).1 hp.1) ((nw_le _ _).1 hq.2)
  have g2 : q.num.natAbs * p.den < W64 ^ (a + b) := by
    rw [Nat.pow_add, Nat.mul_comm]
    exact Nat.mul_lt_mul'' ((nw_le _ _).1 hp.2) ((nw_le _ _).1 hq.1)
  have h4 := nw_mul p.den q.den
  refine ⟨?_, ?_⟩
  · rw [e1, nw_le]
    refine Nat.lt_of_le_of_lt (m := p.num.natAbs * q.den + q.num.natAbs * p.den) ?_ ?_
    · refine Nat.le_trans (Int.natAbs_ediv_le_natAbs _ _) ?_
      refine Nat.le_trans (Int.natAbs_add_le _ _) ?_
      rw [Int.natAbs_mul, Int.natAbs_mul, Int.natAbs_natCast, Int.natAbs_natCast]
      exact Nat.add_le_add (Nat.mul_le_mul_left _ (Nat.div_le_self _ _)) (Nat.mul_le_mul_left _ (Nat.div_le_self _ _))
    · have h2 : W64 ^ (a + b) * 2 ≤ W64 ^ (a + b + 1) := by
        rw [Nat.pow_succ]
        exact Nat.mul_le_mul_left _ (by unfold W64; omega)
      omega
  · rw [e2]
    refine Nat.le_trans (nw_mono (y := p.den * q.den) ?_) (by have := hp.2; have := hq.2; omega)
    exact Nat.mul_le_mul (Nat.div_le_self _ _) (Nat.div_le_self _ _)
theorem ratW_zero : RatW 0 1 := ⟨by rw [show (0 : Rat).num.natAbs = 0 from rfl, nw_zero]; omega, by rw [show (0 : Rat).den = 1 from rfl, nw_one 1 (by omega) (by decide)]; omega⟩
theorem sumQ_w (qs : Nat → Rat) (c n : Nat) (h : ∀ k, k < n → RatW (qs k) c) : ∀ k, k ≤ n → RatW (sumQ qs k) (k * (c + 1) + 1)
  | 0, _ => by rw [Nat.zero_mul]; exact ratW_zero
  | k + 1, hk => (ratW_add1 (sumQ_w qs c n h k (by omega)) (h k (by omega))).mono (by rw [Nat.succ_mul]; omega)

theorem natAt_apart {W W' : World} {v : Value} {x s : Nat} (h : NatAt W v x) (h1 : ∀ o, 0 < o → W.cell? ⟨s, o, none⟩ = none) (h0 : ∃ a, W.cell? ⟨s, 0, none⟩ = some (.pointer a))
    (hc : ∀ a y, a.block ≠ s → W.cell? a = some y → W'.cell? a = some y) (hz : W.heap.size ≤ W'.heap.size) : NatAt W' v x := by
  obtain ⟨A, c, e, q1, q2, q3⟩ := h
  refine ⟨A, c, e, q1, q2, fun hn => ?_⟩
  obtain ⟨b, o, e1, e2, e3⟩ := q3 hn
  have hb : b ≠ s := by
    rintro rfl
    have h9 := e3 0 hn
    obtain ⟨a, ha⟩ := h0
    rcases Nat.eq_zero_or_pos o with rfl | ho
    · rw [show 0 + 0 = 0 from rfl, ha] at h9
      cases h9
    · rw [h1 (o + 0) (by omega)] at h9
      cases h9
  exact ⟨b, o, e1, Nat.lt_of_lt_of_le e2 hz, fun k hk => hc _ _ hb (e3 k hk)⟩
/-- A number outlasts a change of a block that is one pointer. -/
theorem ratV_apart {W W' : World} {v : Value} {q : Rat} {s : Nat} (h : RatV W v q) (h1 : ∀ o, 0 < o → W.cell? ⟨s, o, none⟩ = none) (h0 : ∃ a, W.cell? ⟨s, 0, none⟩ = some (.pointer a))
    (hc : ∀ a y, a.block ≠ s → W.cell? a = some y → W'.cell? a = some y) (hz : W.heap.size ≤ W'.heap.size) : RatV W' v q := by
  obtain ⟨b, nv, dv, e, hlt, c0, c1, c2, c3, hn, hd⟩ := h
  have hb : b ≠ s := by
    rintro rfl
    rw [h1 1 (by omega)] at c1
    cases c1
  exact ⟨b, nv, dv, e, Nat.lt_of_lt_of_le hlt hz, hc _ _ hb c0, hc _ _ hb c1, hc _ _ hb c2, hc _ _ hb c3, natAt_apart hn h1 h0 hc hz, natAt_apart hd h1 h0 hc hz⟩

theorem natAt_kept {W W' : World} {v : Value} {x : Nat} (h : NatAt W v x) (hc : ∀ a y, W.cell? a = some y → W'.cell? a = some y) (hz : W.heap.size ≤ W'.heap.size) : NatAt W' v x := by
  obtain ⟨A, c, e, q1, q2, q3⟩ := h
  refine ⟨A, c, e, q1, q2, fun hn => ?_⟩
  obtain ⟨b, o, e1, e2, e3⟩ := q3 hn
  exact ⟨b, o, e1, Nat.lt_of_lt_of_le e2 hz, fun k hk => hc _ _ (e3 k hk)⟩
theorem ratV_kept {W W' : World} {v : Value} {q : Rat} (h : RatV W v q) (hc : ∀ a y, W.cell? a = some y → W'.cell? a = some y) (hz : W.heap.size ≤ W'.heap.size) : RatV W' v q := by
  obtain ⟨b, nv, dv, e, hlt, c0, c1, c2, c3, hn, hd⟩ := h
  exact ⟨b, nv, dv, e, Nat.lt_of_lt_of_le hlt hz, hc _ _ c0, hc _ _ c1, hc _ _ c2, hc _ _ c3, natAt_kept hn hc hz, natAt_kept hd hc hz⟩

/-- What slices.Values reads: the slice that it was given, and its elements. -/
def ReadsV (Bs : Nat) (A : Option Addr) (len cap : Nat) (xs : Nat → Value) (W : World) : Prop :=
  W.cell? ⟨Bs, 0, none⟩ = some (.slice A len cap) ∧ ∀ k, k < len → ∃ b o, A = some ⟨b, o, none⟩ ∧ W.cell? ⟨b, o + k, none⟩ = some (xs k)

set_option maxRecDepth 100000 in
set_option maxHeartbeats 2000000 in
theorem valuesV_iter (F : Fence) (n : Nat) (hF : F.fn 85) (hro : F.round = none) (Bs : Nat) (A : Option Addr) (len cap : Nat) (xs : Nat → Value) (hxs : ∀ k, ∃ a, xs k = .pointer a) (hlen : len ≤ 1000000000) (hn : 1 ≤ n) :
    IterAt F n Tryz.prog 85 #[.pointer (some ⟨Bs, 0, none⟩)] (ReadsV Bs A len cap xs) (fun k args _ => args = #[xs k]) len := by
  intro l J Jx W hJ hJx hR hY h0
  refine callsIn_of_wp Tryz.func85 rfl hF ?_ hro
  simp only [Tryz.ntmps85, List.size_toArray, List.length_cons, List.length_nil, Nat.reduceAdd, Nat.reduceSub, Array.replicate_succ, Array.replicate_zero, List.push_toArray, List.append_toArray, List.nil_append, List.cons_append]
  have hs := (hR 0 W h0).1
  have HR := Lib.hid hR
  have HY := Lib.hid hY
  have HX := Lib.hid hxs
  clear hR hY hxs
  gi_wp2
  gi_loopw [7] (fun i wr => ∃ k : Nat, k ≤ len ∧ i = .int .i64 k ∧ Hid (J k wr)) (fun i _ => len - (intOf i).toNat)
  case atStart => exact ⟨0, Nat.zero_le _, rfl, h0⟩
  case round =>
    obtain ⟨k, hk, rfl, hj⟩ := hrel
    by_cases hlt : k < len
    · obtain ⟨b, o, rfl, hc⟩ := (HR.out k wr hj.out).2 k hlt
      obtain ⟨fn, tmps, assign, body, hy, hround⟩ := HY.out k #[xs k] wr hlt hj.out rfl
      obtain ⟨a, ha⟩ := HX.out k
      rw [ha] at hc hy
      clear ha
      gi_wp2
      refine hround.mono ?_
      rintro e W3 (⟨rfl, hj3⟩ | ⟨rfl, hjx⟩)
      · have HJ3 := Lib.hid hj3
        clear hj3 hround hy hc
        gi_wp2
        go_roundw
        case rel => exact ⟨k + 1, by omega, by go_num, HJ3⟩
        case measure => simp [intOf]; omega
      · have HJX := Lib.hid hjx
        clear hjx hround hy hc
        gi_wp2
        refine bodyPost_ret (results_none rfl _ _ _) rfl ?_
        exact ⟨⟨_, rfl⟩, .inr HJX.out⟩
    · obtain rfl : k = len := by omega
      gi_wp2
      go_end0
      exact ⟨⟨_, rfl⟩, .inl hj.out⟩

theorem cV_values (w : World) (A : Option Addr) (n c : Nat) : Calls Tryz.prog 48 #[.slice A n c] w fun e w' => e = .returned (.func (.func 85) #[] #[.pointer (some ⟨w.heap.size, 0, none⟩)]) ∧ w.alloc (.cells #[.slice A n c] 35) = w' := by
  go_enter Tryz.func48, Tryz.ntmps48
  go_wp2
  go_ret
  exact ⟨rfl, rfl⟩

theorem ltV_of_cell {w : World} {b o : Nat} {v : Value} (h : w.cell? ⟨b, o, none⟩ = some v) : b < w.heap.size := by
  by_cases hb : b < w.heap.size
  · exact hb
  · have : w.heap[b]? = none := Array.getElem?_eq_none (by omega)
    simp [World.cell?, this] at h
theorem keepsV_of_below {W W' : World} (h : Below W.heap.size W W') : KeepsOthers W W' :=
  ⟨h.size, fun k _ hk _ => (h.block k (Array.getElem?_eq_some_iff.1 hk).1).trans hk⟩

theorem ratV_ptr {w : World} {v : Value} {neg : Bool} {n d : Nat} (h : RatAt w v neg n d) : ∃ a, v = .pointer a := by
  obtain ⟨b, _, _, h, _⟩ := h
  exact ⟨_, h⟩
set_option maxRecDepth 100000 in
set_option maxHeartbeats 4000000 in
theorem v_Sum (w : World) (A : Option Addr) (n cap c : Nat) (xs : Nat → Value) (qs : Nat → Rat) (hxs : ∀ k, ∃ a, xs k = .pointer a)
    (hA : ∀ k, k < n → ∃ b o, A = some ⟨b, o, none⟩ ∧ b < w.heap.size ∧ w.cell? ⟨b, o + k, none⟩ = some (xs k)) (hq : ∀ k, k < n → RatV w (xs k) (qs k)) (hw : ∀ k, k < n → RatW (qs k) c)
    (hc1 : n * (c + 1) + 1 ≤ 100000) (hc2 : c ≤ 100000) :
    Calls Tryz.prog 10 #[.slice A n cap] w (RatVRet w (sumQ qs n)) := by
  have HW : Hid (∀ W, Calls Tryz.prog 25 #[.int .u64 1] W (NatRet W 1)) := fun W => n_word W 1 (by decide)
  have HM : Hid (∀ W v, NatAt W v 1 → Calls Tryz.prog 24 #[.bool false, .slice none 0 0, v] W (RatRet W false 0 1)) := fun W v hv => c_made W (.slice none 0 0) v false 0 1 (NatAt.zero W) hv
  have HX := Lib.hid hxs
  have HA := Lib.hid hA
  have HQ := Lib.hid hq
  have HWd := Lib.hid hw
  have HP := Lib.hid (sumQ_w qs c n hw)
  have HC1 := Lib.hid hc1
  have HC2 := Lib.hid hc2
  have hn : n ≤ 1000000000 := by
    have : n * 1 ≤ n * (c + 1) := Nat.mul_le_mul_left _ (by omega)
    omega
  clear hxs hA hq hw hc1 hc2
  refine (callsIn_wide (n := 3)).1 ?_
  refine callsIn_of_wp_marks Tryz.func10 rfl trivial ?_ rfl
  simp only [Tryz.ntmps10, List.size_toArray, List.length_cons, List.length_nil, Nat.reduceAdd, Nat.reduceSub, Array.replicate_succ, Array.replicate_zero, List.push_toArray, List.append_toArray, List.nil_append, List.cons_append]
  gi_wp2_with (first
    | (refine ⟨trivial, ?_⟩; gi_at_call 25; refine (callsIn_wide.2 (HW.out _)).mono ?_; rintro e w1 ⟨u1, rfl, hu1, hb1⟩)
    | (refine ⟨trivial, ?_⟩; gi_at_call 24; refine (callsIn_wide.2 (HM.out _ _ hu1)).mono ?_; rintro e wS ⟨su, rfl, hsu, hbS⟩; obtain ⟨sa, hsa⟩ := ratV_ptr hsu; subst hsa)
    | (refine ⟨trivial, ?_⟩; gi_at_call 48; refine (callsIn_wide.2 (cV_values _ _ _ _)).mono ?_; rintro e wV ⟨rfl, rfl⟩))
  have bw1 : Below w.heap.size w w1 := btr ((Below.refl _ _).alloc (Nat.le_refl _) _) hb1
  have bS : Below w.heap.size w wS := btr bw1 hbS
  have hrS : wS.heap[w.heap.size]? = some (.cells #[.pointer none] 22 (0, 0)) := (hbS.block _ (by have := hb1.size; simp at this; omega)).trans ((hb1.block _ (by simp)).trans (heap_alloc_new w _))
  have hrl : w.heap.size < wS.heap.size := (Array.getElem?_eq_some_iff.1 hrS).1
  have hsz : RatV wS (.pointer sa) 0 := hsu.toV (by decide) (by decide) (by decide)
  have HS := Lib.hid hsz
  have HBS := Lib.hid bS
  have HRS := Lib.hid hrS
  clear hu1 hb1 hbS hsu bw1 bS hrS hsz
  have n0 := heap_alloc_new wS (.cells #[.pointer sa] 22)
  have n1 := heap_alloc_new (wS.alloc (.cells #[.pointer sa] 22)) (.cells #[.slice A n cap] 35)
  rw [World.size_alloc] at n1
  have n0' := (Below.heap_alloc (wS.alloc (.cells #[.pointer sa] 22)) (.cells #[.slice A n cap] 35) wS.heap.size (by simp)).trans n0
  have bL : Below wS.heap.size wS ((wS.alloc (.cells #[.pointer sa] 22)).alloc (.cells #[.slice A n cap] 35)) := ((Below.refl _ _).alloc (Nat.le_refl _) _).alloc (by simp) _
  have zL : ((wS.alloc (.cells #[.pointer sa] 22)).alloc (.cells #[.slice A n cap] 35)).heap.size = wS.heap.size + 2 := by simp
  generalize (wS.alloc (.cells #[.pointer sa] 22)).alloc (.cells #[.slice A n cap] 35) = L at *
  refine wpIn_range_at (gf := 85) (lb := #[.pointer (some ⟨wS.heap.size + 1, 0, none⟩)]) rfl (by omega) rfl trivial (enters_of Tryz.func85 (by kernel_rfl) rfl)
    (valuesV_iter Fence.wide _ trivial rfl (wS.heap.size + 1) A n cap xs HX.out hn (by omega))
    (fun k args W h => by rw [h]; rfl)
    (fun k W => (k ≤ n ∧ W.cell? ⟨wS.heap.size + 1, 0, none⟩ = some (.slice A n cap) ∧ ∃ a, W.heap[wS.heap.size]? = some (.cells #[.pointer a] 22 (0, 0)) ∧ RatV W (.pointer a) (sumQ qs k)) ∧ Below wS.heap.size wS W)
    (fun c W => False ∧ Below w.heap.size w W)
    (OwnFrom.and (Own.from (fun s A B row hs hg hr => by
      obtain ⟨h1, h2, a, h3, h4⟩ := hs
      refine ⟨h1, cell_kept h2 hg hr, a, (grownBy_keeps_cells hg hr h3 rfl).trans h3, ?_⟩
      exact ratV_kept h4 (fun x y hx => cell_kept hx hg hr) hg.size) _) (ownFrom_below (Nat.le_refl _) (by omega)))
    (OwnFrom.and (Own.from (fun s A B row hs hg hr => hs) _) (ownFrom_below (Nat.le_refl _) (by omega)))
    (fun s W W' row hs hg hr => hs) ?reads ?start
    (fun args => { tmps := #[.slice A n cap, undef, .pointer (some ⟨w.heap.size, 0, none⟩), .pointer (some ⟨wS.heap.size, 0, none⟩), args.getD 0 undef, u1, .pointer sa, .slice A n cap, .func (.func 85) #[] #[.pointer (some ⟨wS.heap.size + 1, 0, none⟩)], args.getD 0 undef, undef, undef, undef, undef, undef, undef, undef], defers := [] }) ?assign ?body ?done ?stop
  case reads =>
    rintro k W ⟨⟨_, h1, _⟩, h2⟩
    refine ⟨h1, fun j hj => ?_⟩
    obtain ⟨b, o, rfl, hb, hcell⟩ := HA.out j hj
    have hb' : b < wS.heap.size := Nat.lt_of_lt_of_le hb HBS.out.size
    exact ⟨b, o, rfl, (h2.cell (p := ⟨b, o + j, none⟩) hb').trans ((HBS.out.cell (p := ⟨b, o + j, none⟩) hb).trans hcell)⟩
  case start => exact ⟨⟨by omega, by rw [cell_of_row _ _ _ _ _ _ n1]; rfl, sa, n0', HS.out.below bL⟩, bL⟩
  case assign =>
    rintro l k args W K rfl hK
    gi_wp2
    exact hK
  case body =>
    rintro l k args W hk ⟨⟨hk1, h1, a, h3, h4⟩, hB⟩ rfl
    have hq := ((HQ.out k hk).below HBS.out).below hB
    obtain ⟨xa, hxa⟩ := HX.out k
    rw [hxa] at hq ⊢
    have HV := Lib.hid (c_valid W (.pointer xa) _ _ _ hq)
    have HAd := Lib.hid (v_Add W (.pointer a) (.pointer xa) (sumQ qs k) (qs k) h4 hq ((HP.out k hk1).mono (by have h9 := Nat.mul_le_mul_right (c + 1) hk1; have := HC1.out; omega)) ((HWd.out k hk).mono HC2.out))
    have ha : W.cell? ⟨wS.heap.size, 0, none⟩ = some (.pointer a) := by rw [cell_of_row _ _ _ _ _ _ h3]; rfl
    have hf : W.frozen? ⟨wS.heap.size, 0, none⟩ = false := by simp [World.frozen?, h3]
    have hlt := ltV_of_cell ha
    have H3 := Lib.hid h3
    clear hq h4 h3
    gi_wp2_with (first
      | (refine ⟨trivial, ?_⟩; gi_at_call 49; refine (CallsIn.inRound l (callsIn_wide.2 HV.out)).mono ?_; rintro e w' ⟨rfl, rfl⟩)
      | (refine ⟨trivial, ?_⟩; gi_at_call 30; refine (CallsIn.inRound l (callsIn_wide.2 HAd.out)).mono ?_; rintro e wA ⟨u, rfl, hu, hbA⟩; obtain ⟨ua, hua⟩ := ratV_ptr hu; subst hua; have cA := (hbA.cell (p := ⟨wS.heap.size, 0, none⟩) hlt).trans ha; have fA := (hbA.frozen (p := ⟨wS.heap.size, 0, none⟩) hlt).trans hf))
    have hrA : wA.heap[wS.heap.size]? = some (.cells #[.pointer a] 22 (0, 0)) := (hbA.block _ hlt).trans H3.out
    have hsolo : ∀ o, 0 < o → wA.cell? ⟨wS.heap.size, o, none⟩ = none := fun o ho => by simp [World.cell?, hrA]; omega
    refine ⟨(keepsV_of_below hbA).trans (KeepsOthers.setCell _ _ _), ⟨by omega, ?_, ua, ?_, ?_⟩, (btr hB (hbA.mono (Nat.le_refl _))).setCell (p := ⟨wS.heap.size, 0, none⟩) (Nat.le_refl _) _⟩
    · rw [World.cell?_setCell_other _ _ _ _ (by intro e; injection e with e1; omega), hbA.cell (p := ⟨wS.heap.size + 1, 0, none⟩) (ltV_of_cell h1)]
      exact h1
    · exact heap_setCell_same _ _ _ _ _ _ hrA
    · exact ratV_apart (s := wS.heap.size) hu hsolo ⟨a, cA⟩ (fun x y hne hx => by rw [World.cell?_setCell_other _ _ _ _ (by rintro rfl; exact hne rfl)]; exact hx) (by simp [World.setCell]; first | done | (split <;> simp))
  case done =>
    rintro D W hD ⟨⟨_, _, a, h3, h4⟩, hB⟩ hK
    have ha : W.cell? ⟨wS.heap.size, 0, none⟩ = some (.pointer a) := by rw [cell_of_row _ _ _ _ _ _ h3]; rfl
    have hr := (hB.block _ hrl).trans HRS.out
    have rc : W.cell? ⟨w.heap.size, 0, none⟩ = some (.pointer none) := by rw [cell_of_row _ _ _ _ _ _ hr]; rfl
    have rf : W.frozen? ⟨w.heap.size, 0, none⟩ = false := by simp [World.frozen?, hr]
    have H4 := Lib.hid h4
    have HR := Lib.hid hr
    clear h4 h3 hr
    have hDl : w.heap.size < D := by omega
    have hbelow : Below w.heap.size w W := btr HBS.out hB
    have hK2 : (W.setCell ⟨w.heap.size, 0, none⟩ (.pointer a)).heap[D]? = some (.deferred (some [])) := (heap_setCell_other _ _ _ _ (by show D ≠ w.heap.size; omega)).trans hK
    have hc2 : (W.setCell ⟨w.heap.size, 0, none⟩ (.pointer a)).cell? ⟨w.heap.size, 0, none⟩ = some (.pointer a) := World.cell?_setCell_same' _ _ _ (by rw [rc]; rfl)
    have hv2 : RatV (W.setCell ⟨w.heap.size, 0, none⟩ (.pointer a)) (.pointer a) (sumQ qs n) :=
      ratV_apart (s := w.heap.size) H4.out (fun o ho => by simp [World.cell?, HR.out]; omega) ⟨_, rc⟩ (fun x y hne hx => by rw [World.cell?_setCell_other _ _ _ _ (by rintro rfl; exact hne rfl)]; exact hx) (by simp [World.setCell]; first | done | (split <;> simp))
    have HK2 := Lib.hid hK2
    have HC2' := Lib.hid hc2
    have HV2 := Lib.hid hv2
    have HB2 : Hid (Below w.heap.size w (W.setCell ⟨w.heap.size, 0, none⟩ (.pointer a))) := hbelow.setCell (p := ⟨w.heap.size, 0, none⟩) (Nat.le_refl _) _
    clear hK2 hc2 hv2 hbelow hK
    gi_wp2
    refine ⟨by simp, .inl ⟨_, _, rfl, run_takeDeferred HK2.out, ?_⟩⟩
    have hg := grownBy_putObj' (W.setCell ⟨w.heap.size, 0, none⟩ (.pointer a)) D (.deferred none)
    have hrow : ∀ r, some D = some r → ∃ o : Obj, (W.setCell ⟨w.heap.size, 0, none⟩ (.pointer a)).heap[r]? = some o ∧ o.isCells = false := fun r e => by cases e; exact ⟨_, HK2.out, rfl⟩
    have hc5 := cell_kept HC2'.out hg hrow
    refine ⟨.pointer a, ?_, .pointer a, rfl, ratV_kept HV2.out (fun x y hx => cell_kept hx hg hrow) hg.size, HB2.out.trans (belowK_b (w := w) (Nat.le_refl _) _ D _ _ (by omega) HK2.out rfl rfl)⟩
    simp [results, Tryz.results10, go_sem, hc5]
  case stop =>
    rintro D c W hD ⟨h, _⟩ hK
    exact h.elim
end Go.Proofs.YtoiihehlgfgikaaGreatDoor
end

/- Appending to a slice of one's own: what every cell of its array is. -/
section
namespace Go.Proofs.YtoiihehlgfgikaaGreatDoor
open Go Go.RowKit

/-- Every cell of a slice's array is in Pr. -/
def AllIn (w : World) (v : Value) (Pr : Value → Prop) : Prop := ∀ g, v.ownBlock = some g → ∀ o u, w.cell? ⟨g, o, none⟩ = some u → Pr u

theorem mem_zeroCells {z : Array Value} {n : Nat} {u : Value} (h : u ∈ Builtin.zeroCells z n) (hz : 0 < z.size) : u ∈ z := by
  unfold Builtin.zeroCells at h
  rw [Array.mem_map] at h
  obtain ⟨i, _, rfl⟩ := h
  have hi : i % z.size < z.size := Nat.mod_lt _ hz
  rw [getElem!_pos z _ hi]
  exact Array.getElem_mem hi
theorem cell_mem {w : World} {g o : Nat} {cur : Array Value} {e : TypeId} {u : Value} (hg : w.heap[g]? = some (.cells cur e (0, 0))) (h : w.cell? ⟨g, o, none⟩ = some u) : u ∈ cur := by
  rw [cell_of_row w g o cur e (0, 0) hg] at h
  exact Array.mem_of_getElem? h
theorem mem_cell {w : World} {g : Nat} {cur : Array Value} {e : TypeId} {u : Value} (hg : w.heap[g]? = some (.cells cur e (0, 0))) (h : u ∈ cur) : ∃ o, w.cell? ⟨g, o, none⟩ = some u := by
  obtain ⟨j, hj, rfl⟩ := Array.mem_iff_getElem.1 h
  exact ⟨j, by rw [cell_of_row w g j cur e (0, 0) hg]; exact Array.getElem?_eq_getElem hj⟩

theorem run_append_all {P : Program} (w : World) (base : Nat) (t ty e : TypeId) (i : TypeInfo) (z : Value) (size bytes : Nat) (ht : P.underlying t = some (.slice e)) (hi : P.info? e = some i) (hz : i.zero = some z)
    (hsize : i.size = size) (hby : i.bytes = bytes) (hzs : z.cells.size = size) (hsz : 0 < size) (v : Value) (n : Nat) (xs : List Value) (hown : w.ownsRow base e size v n xs)
    (a : Addr) (m c : Nat) (news : List Value) (hl : news.length = m * size) (hnews : ∀ j u, news[j]? = some u → w.cell? (a.add j) = some u) (h1 : ∀ u ∈ news, u.oneCell' = true)
    (h63 : n + m ≤ maxLen) (hbytes : (n + m) * bytes ≤ 140737488355328) (hbase : base ≤ w.heap.size)
    (Pr : Value → Prop) (hP0 : ∀ u ∈ z.cells, Pr u) (hPn : ∀ u ∈ news, Pr u) (hPv : AllIn w v Pr) :
    ∃ v' w', (Builtin.append_ #[t, t] ty #[v, .slice (some a) m c]).run P w = .ok v' w' ∧ w'.ownsRow base e size v' (n + m) (xs ++ news) ∧ w.grownBy w' v.ownBlock ∧ AllIn w' v' Pr := by
  obtain ⟨v', w', hr, h2, h3, h4⟩ := run_append_own (P := P) w base t ty e i z size bytes ht hi hz hsize hby hzs hsz v n xs hown a m c news hl hnews h1 h63 hbytes hbase
  refine ⟨v', w', hr, h2, h3, ?_⟩
  subst hsize hby
  have hxs : ∀ u ∈ xs, Pr u := by
    intro u hu
    rcases hown.2 with ⟨_, hn0⟩ | ⟨g, cap, cur, rfl, _, hg, _, _, _, htake⟩
    · have hx : xs = [] := List.eq_nil_of_length_eq_zero (by rw [hown.1, hn0, Nat.zero_mul])
      rw [hx] at hu
      cases hu
    · rw [← htake] at hu
      obtain ⟨o, ho⟩ := mem_cell hg (Array.mem_toList_iff.1 (List.mem_of_mem_take hu))
      exact hPv g rfl o u ho
  have zer : ∀ k, ∀ u ∈ Builtin.zeroCells z.cells k, Pr u := fun k u hu => hP0 u (mem_zeroCells hu (by rw [hzs]; exact hsz))
  have new : ∀ (arr : Array Value) (len cap : Nat), (∀ u ∈ arr, Pr u) → AllIn (w.drew.alloc (.cells arr e)) (.slice (some ⟨w.heap.size, 0, none⟩) len cap) Pr := by
    intro arr len cap ha g hg o u hu
    obtain rfl : w.heap.size = g := by simpa [Value.ownBlock] using hg
    exact ha u (cell_mem (heap_alloc_new w.drew _) hu)
  rcases hown.2 with ⟨rfl, rfl⟩ | ⟨g, cap, cur, rfl, hbg, hg, hnc, hcm, hcs, htake⟩
  · by_cases hm : m = 0
    · obtain rfl : v' = .slice none 0 0 := h4.2 ⟨rfl, hm⟩
      intro g hg
      simp [Value.ownBlock] at hg
    · have hr2 := run_append_nil (P := P) w t ty e i z ht hi hz a m c news hl hnews (by omega) (by simp only [maxLen] at h63; omega) (by have := hbytes; simp only [Nat.zero_add] at this; omega)
      rw [hr] at hr2
      injection hr2 with e1 e2
      subst e1 e2
      refine new _ _ _ fun u hu => ?_
      rcases Array.mem_append.1 hu with hu | hu
      · exact hPn u (by simpa using hu)
      · exact zer _ u hu
  · by_cases hroom : n + m ≤ cap
    · have hr2 := run_append_room (P := P) w t ty e i ht hi g n cap cur hg a m c news hl hnews h1 hroom (by rw [hl, hcs, ← Nat.add_mul]; exact Nat.mul_le_mul_right _ hroom)
      rw [hr] at hr2
      injection hr2 with e1 e2
      subst e1 e2
      intro g' hg' o u hu
      obtain rfl : g = g' := by simpa [Value.ownBlock] using hg'
      have hm := cell_mem (setRow_heap w g cur _ e _ hg) hu
      have old : u ∈ cur.toList → Pr u := fun h => by
        obtain ⟨o', ho'⟩ := mem_cell hg (Array.mem_toList_iff.1 h)
        exact hPv g rfl o' u ho'
      rw [List.mem_toArray, List.mem_append, List.mem_append] at hm
      rcases hm with (h | h) | h
      · exact old (List.mem_of_mem_take h)
      · exact hPn u h
      · exact old (List.mem_of_mem_drop h)
    · have hr2 := run_append_grow (P := P) w t ty e i z ht hi hz ⟨g, 0, none⟩ n cap xs hown.1 (hown.cells (g := g) rfl) a m c news hl hnews (by omega) (by simp only [maxLen] at h63; omega) (growslice_fits (by omega) hbytes)
      rw [hr] at hr2
      injection hr2 with e1 e2
      subst e1 e2
      refine new _ _ _ fun u hu => ?_
      rcases Array.mem_append.1 hu with hu | hu
      · rcases Array.mem_append.1 hu with hu | hu
        · exact hxs u (by simpa using hu)
        · exact hPn u (by simpa using hu)
      · exact zer _ u hu

theorem wpList_append_all {P : Program} (w : World) {ops : Array Oper} {rest : List Oper} {o : Oper} {a : Act} {Q : Exit → Act → World → Prop} (hgd : o.guard = none) (s x : Operand) (t : TypeId)
    (ho : o.op = .call { callee := .builtin .append, args := #[s, x], argTypes := #[t, t] })
    (base : Nat) (e : TypeId) (i : TypeInfo) (z : Value) (size bytes : Nat) (ht : P.underlying t = some (.slice e)) (hi : P.info? e = some i) (hz : i.zero = some z)
    (hsize : i.size = size) (hby : i.bytes = bytes) (hzs : z.cells.size = size) (hsz : 0 < size) (v : Value) (n : Nat) (xs : List Value) (hs : a.eval s = v) (hown : w.ownsRow base e size v n xs)
    (ad : Addr) (m c : Nat) (news : List Value) (hx : a.eval x = .slice (some ad) m c) (hl : news.length = m * size) (hnews : ∀ j u, news[j]? = some u → w.cell? (ad.add j) = some u) (h1 : ∀ u ∈ news, u.oneCell' = true)
    (h63 : n + m ≤ maxLen) (hbytes : (n + m) * bytes ≤ 140737488355328) (hbase : base ≤ w.heap.size)
    (Pr : Value → Prop) (hP0 : ∀ u ∈ z.cells, Pr u) (hPn : ∀ u ∈ news, Pr u) (hPv : AllIn w v Pr)
    (h : ∀ v' w', w'.ownsRow base e size v' (n + m) (xs ++ news) → w.grownBy w' v.ownBlock → AllIn w' v' Pr → wpList P ops Q rest (a.put o.dst v') w') : wpList P ops Q (o :: rest) a w := by
  obtain ⟨v', w', hr, h2, h3, h4⟩ := run_append_all (P := P) w base t o.type e i z size bytes ht hi hz hsize hby hzs hsz v n xs hown ad m c news hl hnews h1 h63 hbytes hbase Pr hP0 hPn hPv
  exact Lib.wpList_append_run w hgd s x t t ho v _ hs hx v' w' hr (h v' w' h2 h3 h4)
end Go.Proofs.YtoiihehlgfgikaaGreatDoor
end

/- ExactParts: sums in parts: the whole walk of the law. -/
section
namespace Go.Proofs.YtoiihehlgfgikaaGreatDoor
open Go Go.RowKit Go.Deep

/-- A list with one more element. -/
def ext {α : Type} (f : Nat → α) (k : Nat) (x : α) : Nat → α := fun j => if j = k then x else f j
theorem ext_same {α : Type} (f : Nat → α) (k : Nat) (x : α) : ext f k x k = x := by unfold ext; rw [if_pos rfl]
theorem ext_ne {α : Type} (f : Nat → α) (k : Nat) (x : α) (j : Nat) (h : j ≠ k) : ext f k x j = f j := by unfold ext; rw [if_neg h]
theorem ext_map {α : Type} (f : Nat → α) (k : Nat) (x : α) : (List.range (k + 1)).map (ext f k x) = (List.range k).map f ++ [x] := by
  rw [List.range_succ, List.map_append, List.map_singleton, ext_same]
  congr 1
  exact List.map_congr_left fun j hj => ext_ne f k x j (by have := List.mem_range.1 hj; omega)

theorem sumQ_congr (f g : Nat → Rat) : ∀ n, (∀ j, j < n → f j = g j) → sumQ f n = sumQ g n
  | 0, _ => rfl
  | n + 1, h => by
    show sumQ f n + f n = sumQ g n + g n
    rw [sumQ_congr f g n (fun j hj => h j (by omega)), h n (by omega)]
theorem sumQ_front (f : Nat → Rat) : ∀ n, sumQ f (n + 1) = f 0 + sumQ (fun j => f (j + 1)) n
  | 0 => by
    show (0 : Rat) + f 0 = f 0 + 0
    rw [Rat.zero_add, Rat.add_zero]
  | n + 1 => by
    show sumQ f (n + 1) + f (n + 1) = f 0 + (sumQ (fun j => f (j + 1)) n + f (n + 1))
    rw [sumQ_front f n, Rat.add_assoc]
theorem sumQ_rev (f : Nat → Rat) : ∀ n, sumQ (fun j => f (n - 1 - j)) n = sumQ f n
  | 0 => rfl
  | n + 1 => by
    rw [sumQ_front]
    show f (n + 1 - 1 - 0) + _ = sumQ f n + f n
    rw [show n + 1 - 1 - 0 = n by omega, Rat.add_comm, ← sumQ_rev f n]
    congr 1
    exact sumQ_congr _ _ _ fun j _ => by show f (n + 1 - 1 - (j + 1)) = f (n - 1 - j); congr 1; omega
theorem sumQ_split (f : Nat → Rat) (k : Nat) : ∀ m, sumQ f (k + m) = sumQ f k + sumQ (fun j => f (k + j)) m
  | 0 => by
    show sumQ f k = sumQ f k + 0
    rw [Rat.add_zero]
  | m + 1 => by
    show sumQ f (k + m) + f (k + m) = sumQ f k + (sumQ (fun j => f (k + j)) m + f (k + m))
    rw [sumQ_split f k m, Rat.add_assoc]
theorem sumQ_cut (f : Nat → Rat) (k n : Nat) (h : k ≤ n) : sumQ f k + sumQ (fun j => f (k + j)) (n - k) = sumQ f n := by
  rw [← sumQ_split, Nat.add_sub_cancel' h]

def IsPtr (u : Value) : Prop := ∃ a, u = .pointer a
theorem ratV_ptrs {W W' : World} {v s : Value} {q : Rat} (h : RatV W v q) (hs : AllIn W s IsPtr) (hc : W.grownBy W' s.ownBlock) : RatV W' v q := by
  have key : ∀ b o u, W.cell? ⟨b, o, none⟩ = some u → ¬ IsPtr u → ∀ o' u', W.cell? ⟨b, o', none⟩ = some u' → W'.cell? ⟨b, o', none⟩ = some u' := by
    intro b o u hu hn o' u' hu'
    exact hc.cell hu' (fun e => hn (hs b e.symm o u hu))
  obtain ⟨b, nv, dv, e, hlt, c0, c1, c2, c3, hn, hd⟩ := h
  have hb := key b 1 _ c1 (by rintro ⟨a, ha⟩; cases ha)
  have nat : ∀ v x, NatAt W v x → NatAt W' v x := by
    rintro v x ⟨A, c, e, q1, q2, q3⟩
    refine ⟨A, c, e, q1, q2, fun hn => ?_⟩
    obtain ⟨b, o, e1, e2, e3⟩ := q3 hn
    have h0 := e3 0 hn
    exact ⟨b, o, e1, Nat.lt_of_lt_of_le e2 hc.size, fun k hk => key b (o + 0) _ h0 (by rintro ⟨a, ha⟩; cases ha) _ _ (e3 k hk)⟩
  exact ⟨b, nv, dv, e, Nat.lt_of_lt_of_le hlt hc.size, hb _ _ c0, hb _ _ c1, hb _ _ c2, hb _ _ c3, nat _ _ hn, nat _ _ hd⟩
theorem grown_below {w w' : World} {row : Option Nat} (h : Below w.heap.size w w') : w.grownBy w' row := ⟨h.os, h.tape, h.output, h.size, fun k hk _ => h.block k hk⟩
theorem AllIn.below {w w' : World} {v : Value} {Pr : Value → Prop} {base : Nat} {e : TypeId} {size n : Nat} {xs : List Value} (h : AllIn w v Pr) (ho : w.ownsRow base e size v n xs) (hb : Below w.heap.size w w') : AllIn w' v Pr := by
  intro g hg o u hu
  have hlt := (ho.lt g hg).2
  exact h g hg o u (by rw [← hb.cell (p := ⟨g, o, none⟩) hlt]; exact hu)
theorem ownsRow_below {w w' : World} {v : Value} {base : Nat} {e : TypeId} {size n : Nat} {xs : List Value} (ho : w.ownsRow base e size v n xs) (hb : Below w.heap.size w w') : w'.ownsRow base e size v n xs :=
  ho.kept (grown_below (row := none) hb) (by cases hv : v.ownBlock <;> simp)

/-- A list of numbers in memory of the call's own. -/
def Nums (B : Nat) (w : World) (v : Value) (k : Nat) (xs : Nat → Value) (qs : Nat → Rat) : Prop :=
  w.ownsRow B 22 1 v k ((List.range k).map xs) ∧ AllIn w v IsPtr ∧ (∀ j, IsPtr (xs j)) ∧ (∀ j, j < k → RatV w (xs j) (qs j)) ∧ (∀ j, j < k → RatW (qs j) 2)
theorem Nums.below {B : Nat} {w w' : World} {v : Value} {k : Nat} {xs : Nat → Value} {qs : Nat → Rat} (h : Nums B w v k xs qs) (hb : Below w.heap.size w w') : Nums B w' v k xs qs :=
  ⟨ownsRow_below h.1 hb, h.2.1.below h.1 hb, h.2.2.1, fun j hj => (h.2.2.2.1 j hj).below hb, h.2.2.2.2⟩
/-- The slice of such a list, and its cells. -/
theorem ownsRow_slice {B : Nat} {w : World} {v : Value} {k : Nat} {e : TypeId} {xs : Nat → Value} (h : w.ownsRow B e 1 v k ((List.range k).map xs)) :
    ∃ A c, v = .slice A k c ∧ k ≤ c ∧ (A = none → k = 0 ∧ c = 0) ∧ ∀ g o s, A = some ⟨g, o, s⟩ → o = 0 ∧ s = none ∧ B ≤ g ∧ g < w.heap.size ∧ ∀ j, j < k → w.cell? ⟨g, j, none⟩ = some (xs j) := by
  have hl := h.lt
  have hcs := fun g hg => h.cells (g := g) hg
  rcases h.2 with ⟨rfl, hk⟩ | ⟨g, cap, cur, rfl, hb, hg, hn, hm, hz, ht⟩
  · exact ⟨none, 0, by rw [hk], by omega, fun _ => ⟨hk, rfl⟩, fun _ _ _ h => by cases h⟩
  · refine ⟨_, _, rfl, hn, fun h => (by cases h), fun g' o s he => ?_⟩
    cases he
    refine ⟨rfl, rfl, hb, (hl g rfl).2, fun j hj => ?_⟩
    have h1 := hcs g rfl j (xs j) (by simp [hj])
    rw [Addr.add_lit, Nat.zero_add] at h1
    exact h1
theorem info_ptr : (Tryz.prog.info? 22).map (fun i => (i.zero, i.size, i.bytes)) = some (some (.pointer none), 1, 8) := by kernel_rfl
end Go.Proofs.YtoiihehlgfgikaaGreatDoor
end
