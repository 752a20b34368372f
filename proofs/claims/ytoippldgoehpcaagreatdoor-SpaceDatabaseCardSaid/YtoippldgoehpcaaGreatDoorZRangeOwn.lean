/- A range over a function that keeps cells of its own between the rounds. -/
import Derived.RangeFuncNested
import Derived.RangeFuncFrom
import Derived.RangeFuncBound
import Derived.RangeFuncCalls
import Derived.RangeFuncLeaves
import Derived.Test.YtoippldgoehpcaaGreatDoorProg
namespace Go.Proofs.YtoippldgoehpcaaGreatDoor
open Go Go.RowKit

/-- What holds goes on holding while memory grows, the block A is written, and a new walk's object turns. -/
def Steps (B A : Nat) (J : World → Prop) : Prop :=
  ∀ W W' row, J W → W.grownBy W' row → (∀ r, row = some r → r = A ∨ (B ≤ r ∧ ∃ o : Obj, W.heap[r]? = some o ∧ o.isWalk = true)) → J W'
/-- .. or any new object that holds no cells turns. -/
def StepsC (B A : Nat) (J : World → Prop) : Prop :=
  ∀ W W' row, J W → W.grownBy W' row → (∀ r, row = some r → r = A ∨ (B ≤ r ∧ ∃ o : Obj, W.heap[r]? = some o ∧ o.isCells = false)) → J W'
theorem StepsC.putObj {B A : Nat} {J : World → Prop} (h : StepsC B A J) {W : World} {l : Nat} {o : Obj} (o' : Obj) (hs : J W) (hB : B ≤ l) (hl : W.heap[l]? = some o) (ho : o.isCells = false) : J (W.putObj l o') :=
  h W _ (some l) hs (grownBy_putObj' W l o') (fun r e => by cases e; exact .inr ⟨hB, o, hl, ho⟩)

/-- What an iterator promises whoever ranges over it: it makes at most N rounds, and keeps a block A of cells of its own. -/
def IterOwn (F : Fence) (n : Nat) (P : Program) (g : Nat) (lb : Array Value) (R : World → Prop) (Y : Nat → Nat → Array Value → World → Prop) (N : Nat) : Prop :=
  ∀ (l : Nat) (J0 : World → Prop) (J : Nat → Nat → World → Prop) (Jx : Nat → World → Prop) (W : World),
    (∀ U U', J0 U → U.grownBy U' none → J0 U') → (∀ A k, W.heap.size ≤ A → Steps W.heap.size A (J A k)) → (∀ A, W.heap.size ≤ A → Steps W.heap.size A (Jx A)) →
    (∀ U, J0 U → R U) → (∀ A k U, J A k U → R U) →
    (∀ A U, J0 U → W.heap.size ≤ A → A < U.heap.size → J A 0 U) →
    (∀ A k args U, k < N → W.heap.size ≤ A → A < U.heap.size → J A k U → Y A k args U → YieldAt F (n - 1) P l args U fun e U' => (e = .returned (.bool true) ∧ J A (k + 1) U' ∧ U'.heap[A]? = U.heap[A]?) ∨ (e = .returned (.bool false) ∧ Jx A U')) →
    J0 W →
    CallsIn F n P g (#[.func (.yield l) #[] #[]] ++ lb) W fun e W' => (∃ v, e = .returned v) ∧ ∃ A, W.heap.size ≤ A ∧ (J A N W' ∨ Jx A W')

/-- How a round's body may be left. -/
def roundOwn (A : Nat) (I : Nat → World → Prop) (Ix : Code → World → Prop) (k : Nat) (W : World) : Exit → Act → World → Prop
  | .normal, _, W' => KeepsOthers W W' ∧ W'.heap[A]? = W.heap[A]? ∧ I k W'
  | .ret, _, W' => KeepsOthers W W' ∧ Ix .ret W'
  | .exit id, _, W' => KeepsOthers W W' ∧ Ix (.exit id) W'
  | .goto t, _, W' => KeepsOthers W W' ∧ Ix (.goto t) W'
  | .panic _, _, _ => False
  | .outgrown, _, _ => False

variable {F : Fence} {n : Nat} {P : Program}

theorem wpIn_range_own {g : Operand} {ps : Array Tmp} {assign body : Code} {Q : Exit → Act → World → Prop} {a : Act} {w : World}
    (hro : F.round = none) (h1 : 1 ≤ n) {gf : Nat} {lb : Array Value} (hg : a.eval g = .func (.func gf) #[] lb) (hFg : F.fn gf) (eg : ∀ args w, (callFunc gf args).run P w = .ok (.enter gf args) w)
    {R : World → Prop} {Y : Nat → Nat → Array Value → World → Prop} {N : Nat} (iter : IterOwn F (n - 1) P gf lb R Y N)
    (hps : ∀ A k args W, Y A k args W → args.size = ps.size)
    (I0 : World → Prop) (I : Nat → Nat → World → Prop) (Ix : Nat → Code → World → Prop) (hI0 : OwnFrom w.heap.size (fun (_ : Unit) => I0)) (hI : ∀ A k, w.heap.size ≤ A → StepsC w.heap.size A (I A k)) (hIx : ∀ A c, w.heap.size ≤ A → StepsC w.heap.size A (Ix A c))
    (hY : OwnFrom w.heap.size (fun (p : Nat × Nat × Array Value) W => Y p.1 p.2.1 p.2.2 W)) (hR0 : ∀ W, I0 W → R W) (hR : ∀ A k W, I A k W → R W) (h0 : I0 w) (hstart : ∀ A W, I0 W → w.heap.size + 2 ≤ A → A < W.heap.size → I A 0 W) (a₁ : Array Value → Act)
    (hassign : ∀ (l : Nat) (A k : Nat) (args : Array Value) (W : World) (K : Act → World → Prop), Y A k args W → K (a₁ args) W →
      assign.wpIn (F.inRound l) (n - 1 - 1) P (Exit.then K (fun _ _ _ => False)) { tmps := (ps.zip args).foldl (fun t (p, v) => t.setIfInBounds p v) a.tmps, defers := [] } W)
    (hbody : ∀ (l : Nat) (A k : Nat) (args : Array Value) (W : World), k < N → w.heap.size + 2 ≤ A → A < W.heap.size → I A k W → Y A k args W → body.wpIn (F.inRound l) (n - 1 - 1) P (roundOwn A (I A) (Ix A) (k + 1) W) (a₁ args) W)
    (hdone : ∀ (D A : Nat) (W : World), w.heap.size ≤ D → I A N W → W.heap[D]? = some (.deferred (some [])) → Q .normal { a with defers := { target := .collected D, args := #[] } :: a.defers } W)
    (hstop : ∀ (D A : Nat) (c : Code) (W : World), w.heap.size ≤ D → Ix A c W → W.heap[D]? = some (.deferred (some [])) → c.wpIn F n P Q { a with defers := { target := .collected D, args := #[] } :: a.defers } W) :
    (Code.rangeFunc g ps assign body).wpIn F n P Q a w := by
  refine wpIn_rangeFunc fun fn hfn => ?_
  rw [hro]
  obtain ⟨rc, hrc⟩ : ∃ rc : LoopState → Option Code → Loop, rc = fun st pe => { state := st, pending := pe, fn, tmps := a.tmps, params := ps, assign, body, defers := w.heap.size } := ⟨_, rfl⟩
  obtain ⟨W1, hW1⟩ : ∃ W1, (w.alloc (.deferred (some []))).alloc (.loop (rc .ready none)) = W1 := ⟨_, rfl⟩
  have hz1 : W1.heap.size = w.heap.size + 2 := by rw [← hW1]; simp
  have hL1 : W1.heap[w.heap.size + 1]? = some (.loop (rc .ready none)) := by
    rw [← hW1]; have := World.alloc_heap_new (w.alloc (.deferred (some []))) (.loop (rc .ready none)); rwa [World.size_alloc] at this
  have hK1 : W1.heap[w.heap.size]? = some (.deferred (some [])) := by
    rw [← hW1]; exact (Below.heap_alloc _ _ _ (by simp)).trans (World.alloc_heap_new w _)
  have hI1 : I0 W1 := by rw [← hW1]; exact hI0.alloc (s := ()) _ (hI0.alloc (s := ()) _ h0)
  refine ⟨w.heap.size + 1, [{ target := .collected w.heap.size, args := #[] }], W1, { target := .fn (.func gf) lb, args := #[.func (.yield (w.heap.size + 1)) #[] #[]] }, W1, gf,
    #[.func (.yield (w.heap.size + 1)) #[] #[]] ++ lb, W1, ?_, ?_, ?_, ?_, fun _ => h1, ?_⟩
  · rw [← hW1, hrc]; exact run_enterLoop_outer _ _ _ _ _
  · simp only [resolve, hg]
    simp [go_sem]
  · intro f' hf'; simp [Target.leads] at hf'; subst hf'; exact hFg
  · simp [invoke, go_sem, eg]
  · have keep : ∀ {U U' : World} {row : Option Nat} {A k : Nat} {o : Obj}, U.grownBy U' row → W1.heap.size ≤ A → k < W1.heap.size → (∀ r, row = some r → r = A ∨ (W1.heap.size ≤ r ∧ ∃ o : Obj, U.heap[r]? = some o ∧ o.isWalk = true)) → U.heap[k]? = some o → U'.heap[k]? = some o :=
      fun hg hA hk hr h => (hg.block _ (Array.getElem?_eq_some_iff.1 h).1 (fun e => by rcases hr _ e.symm with h1 | ⟨h1, _⟩ <;> omega)).trans h
    have low : ∀ {U : World} {row : Option Nat} {A : Nat}, (∀ r, row = some r → r = A ∨ (W1.heap.size ≤ r ∧ ∃ o : Obj, U.heap[r]? = some o ∧ o.isWalk = true)) → (∀ r, row = some r → r = A ∨ (w.heap.size ≤ r ∧ ∃ o : Obj, U.heap[r]? = some o ∧ o.isCells = false)) :=
      fun hr r e => (hr r e).imp id fun ⟨hB, o, ho, hw⟩ => ⟨by omega, o, ho, Obj.not_cells_of_walk hw⟩
    refine (iter (w.heap.size + 1)
      (fun W => I0 W ∧ W.heap[w.heap.size + 1]? = some (.loop (rc .ready none)) ∧ W.heap[w.heap.size]? = some (.deferred (some [])))
      (fun A k W => I A k W ∧ W.heap[w.heap.size + 1]? = some (.loop (rc .ready none)) ∧ W.heap[w.heap.size]? = some (.deferred (some [])))
      (fun A W => ∃ c, Ix A c W ∧ W.heap[w.heap.size + 1]? = some (.loop (rc .done (some c))) ∧ W.heap[w.heap.size]? = some (.deferred (some [])))
      W1
      (fun U U' hs gr => ⟨hI0 () U U' none hs.1 gr (fun r e => by cases e), (gr.block _ (Array.getElem?_eq_some_iff.1 hs.2.1).1 (by simp)).trans hs.2.1, (gr.block _ (Array.getElem?_eq_some_iff.1 hs.2.2).1 (by simp)).trans hs.2.2⟩)
      (fun A k hA U U' row hs gr hr => ⟨hI A k (by omega) U U' row hs.1 gr (low hr), keep gr hA (by omega) hr hs.2.1, keep gr hA (by omega) hr hs.2.2⟩)
      (fun A hA U U' row hs gr hr => by
        obtain ⟨c, hc, hl, hk⟩ := hs
        exact ⟨c, hIx A c (by omega) U U' row hc gr (low hr), keep gr hA (by omega) hr hl, keep gr hA (by omega) hr hk⟩)
      (fun U hj => hR0 U hj.1)
      (fun A k U hj => hR A k U hj.1)
      (fun A U hj hA hU => ⟨hstart A U hj.1 (by omega) hU, hj.2⟩)
      ?_ ⟨hI1, hL1, hK1⟩).mono ?_
    · rintro A k args W hk hA hAl ⟨hi, hl, hd⟩ hy
      have hlt : w.heap.size + 1 < W.heap.size := (Array.getElem?_eq_some_iff.1 hl).1
      have run := run_yield (P := P) (args := args) hl (by rw [hrc]; exact hps A k args W hy)
      rw [hrc] at run
      have yb : Y A k args (W.putObj (w.heap.size + 1) (.loop { rc .ready none with state := .busy })) := hY.putObj (s := (A, k, args)) _ hy (by omega) hl rfl
      refine ⟨fn, _, assign, body, run, roundIn_of_wpIn hfn (hassign _ A k args W _ hy ⟨_, run_beginRound hl (by rw [hrc]), ?_⟩)⟩
      have hl2 : (W.putObj (w.heap.size + 1) (.loop { rc .ready none with state := .busy })).heap[w.heap.size + 1]? = some (.loop { rc .ready none with state := .busy }) := World.putObj_heap_same hlt
      have hd2 : (W.putObj (w.heap.size + 1) (.loop { rc .ready none with state := .busy })).heap[w.heap.size]? = some (.deferred (some [])) := (World.putObj_heap_other (by omega)).trans hd
      refine wpIn_mono (hbody _ A k args _ hk (by omega) (by simpa [World.putObj] using hAl) ((hI A k (by omega)).putObj _ hi (by omega) hl rfl) yb) ?_
      have fin : ∀ (jump : Option Code) (W3 : World), KeepsOthers (W.putObj (w.heap.size + 1) (.loop { rc .ready none with state := .busy })) W3 →
          (Instr.endRound (w.heap.size + 1) jump).run P W3 = .ok (.bool jump.isNone) (W3.putObj (w.heap.size + 1) (.loop (rc (if jump.isNone then .ready else .done) jump))) ∧
          W3.heap[w.heap.size + 1]? = some (.loop { rc .ready none with state := .busy }) ∧
          (W3.putObj (w.heap.size + 1) (.loop (rc (if jump.isNone then .ready else .done) jump))).heap[w.heap.size + 1]? = some (.loop (rc (if jump.isNone then .ready else .done) jump)) ∧
          (W3.putObj (w.heap.size + 1) (.loop (rc (if jump.isNone then .ready else .done) jump))).heap[w.heap.size]? = some (.deferred (some [])) := fun jump W3 kept => by
        have hl3 := kept.same _ _ hl2 rfl
        have er := run_endRound (P := P) jump hl3
        rw [hrc] at er ⊢
        exact ⟨er, by rw [hrc] at hl3; exact hl3, World.putObj_heap_same (Array.getElem?_eq_some_iff.1 hl3).1, (World.putObj_heap_other (by omega)).trans (kept.same _ _ hd2 rfl)⟩
      rintro e a3 W3 hp
      cases e with
      | normal =>
        obtain ⟨kept, hA3, hi3⟩ := hp
        obtain ⟨er, hl3, hl4, hd4⟩ := fin none W3 kept
        exact ⟨_, _, er, .inl ⟨rfl, ⟨(hI A _ (by omega)).putObj _ hi3 (by omega) hl3 rfl, hl4, hd4⟩, (World.putObj_heap_other (by omega)).trans (hA3.trans (World.putObj_heap_other (by omega)))⟩⟩
      | ret =>
        obtain ⟨kept, hi3⟩ := hp
        obtain ⟨er, hl3, hl4, hd4⟩ := fin (some .ret) W3 kept
        exact ⟨_, _, er, .inr ⟨rfl, .ret, (hIx A _ (by omega)).putObj _ hi3 (by omega) hl3 rfl, hl4, hd4⟩⟩
      | exit id =>
        obtain ⟨kept, hi3⟩ := hp
        obtain ⟨er, hl3, hl4, hd4⟩ := fin (some (.exit id)) W3 kept
        exact ⟨_, _, er, .inr ⟨rfl, .exit id, (hIx A _ (by omega)).putObj _ hi3 (by omega) hl3 rfl, hl4, hd4⟩⟩
      | goto t =>
        obtain ⟨kept, hi3⟩ := hp
        obtain ⟨er, hl3, hl4, hd4⟩ := fin (some (.goto t)) W3 kept
        exact ⟨_, _, er, .inr ⟨rfl, .goto t, (hIx A _ (by omega)).putObj _ hi3 (by omega) hl3 rfl, hl4, hd4⟩⟩
      | panic ch => exact hp.elim
      | outgrown => exact hp.elim
    · rintro e W2 ⟨⟨v, rfl⟩, A, hA, (⟨hi, hl, hd⟩ | ⟨c, hi, hl, hd⟩)⟩
      · exact ⟨none, _, by have := run_endLoop (P := P) hl (by rw [hrc]; simp); rw [hrc] at this; exact this, hdone _ A _ (Nat.le_refl _) ((hI A _ (by omega)).putObj _ hi (by omega) hl rfl) ((World.putObj_heap_other (by omega)).trans hd)⟩
      · exact ⟨some c, _, by have := run_endLoop (P := P) hl (by rw [hrc]; simp); rw [hrc] at this; exact this, hstop _ A c _ (Nat.le_refl _) ((hIx A _ (by omega)).putObj _ hi (by omega) hl rfl) ((World.putObj_heap_other (by omega)).trans hd)⟩
end Go.Proofs.YtoippldgoehpcaaGreatDoor
