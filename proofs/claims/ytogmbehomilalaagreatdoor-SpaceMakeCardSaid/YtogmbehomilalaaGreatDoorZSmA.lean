/- A range over a function whose variable lies in a box of its own in each round. -/
import Derived.Test.YtogmbehomilalaaGreatDoorZVaC
import Derived.Test.YtogmbehomilalaaGreatDoorZSpH
import Derived.Test.YtogmbehomilalaaGreatDoorZSpE
import Derived.Test.YtogmbehomilalaaGreatDoorZCmpS
import Derived.Test.YtogmbehomilalaaGreatDoorZSch
import Derived.Test.YtogmbehomilalaaGreatDoorZMathT

/- A range over a function whose variable lies in a box of its own in each round. -/
section
namespace Go.Proofs.YtogmbehomilalaaGreatDoor
open Go Go.RowKit
variable {F : Fence} {n : Nat} {P : Program}
theorem wpIn_range_as {g : Operand} {ps : Array Tmp} {assign body : Code} {Q : Exit → Act → World → Prop} {a : Act} {w : World}
    (hro : F.round = none) (h1 : 1 ≤ n) {gf : Nat} {lb : Array Value} (hg : a.eval g = .func (.func gf) #[] lb) (hFg : F.fn gf) (eg : ∀ args w, (callFunc gf args).run P w = .ok (.enter gf args) w)
    {R : World → Prop} {Y : Nat → Array Value → World → Prop} {N : Nat} (iter : IterAt F (n - 1) P gf lb R Y N)
    (hps : ∀ k args W, Y k args W → args.size = ps.size)
    (I : Nat → World → Prop) (Ix : Code → World → Prop) (hI : OwnFrom w.heap.size I) (hIx : OwnFrom w.heap.size Ix) (hY : OwnFrom w.heap.size (fun (p : Nat × Array Value) W => Y p.1 p.2 W)) (hR : ∀ k W, I k W → R W) (h0 : I 0 w) (ob : Array Value → Obj) (a₁ : Array Value → Nat → Act)
    (hassign : ∀ (l : Nat) (k : Nat) (args : Array Value) (W : World) (K : Act → World → Prop), Y k args W → K (a₁ args W.heap.size) (W.alloc (ob args)) →
      assign.wpIn (F.inRound l) (n - 1 - 1) P (Exit.then K (fun _ _ _ => False)) { tmps := (ps.zip args).foldl (fun t (p, v) => t.setIfInBounds p v) a.tmps, defers := [] } W)
    (hbody : ∀ (l : Nat) (k : Nat) (args : Array Value) (B : Nat) (W : World), k < N → I k W → Y k args W → w.heap.size ≤ B → W.heap[B]? = some (ob args) → body.wpIn (F.inRound l) (n - 1 - 1) P (roundAt I Ix (k + 1) W) (a₁ args B) W)
    (hdone : ∀ (D : Nat) (W : World), w.heap.size ≤ D → I N W → W.heap[D]? = some (.deferred (some [])) → Q .normal { a with defers := { target := .collected D, args := #[] } :: a.defers } W)
    (hstop : ∀ (D : Nat) (c : Code) (W : World), w.heap.size ≤ D → Ix c W → W.heap[D]? = some (.deferred (some [])) → c.wpIn F n P Q { a with defers := { target := .collected D, args := #[] } :: a.defers } W) :
    (Code.rangeFunc g ps assign body).wpIn F n P Q a w := by
  refine wpIn_rangeFunc fun fn hfn => ?_
  rw [hro]
  obtain ⟨rc, hrc⟩ : ∃ rc : LoopState → Option Code → Loop, rc = fun st pe => { state := st, pending := pe, fn, tmps := a.tmps, params := ps, assign, body, defers := w.heap.size } := ⟨_, rfl⟩
  obtain ⟨W1, hW1⟩ : ∃ W1, (w.alloc (.deferred (some []))).alloc (.loop (rc .ready none)) = W1 := ⟨_, rfl⟩
  have hz1 : W1.heap.size = w.heap.size + 2 := by rw [← hW1]; simp
  have hL1 : W1.heap[w.heap.size + 1]? = some (.loop (rc .ready none)) := by
    rw [← hW1]; have := World.alloc_heap_new (w.alloc (.deferred (some []))) (.loop (rc .ready none)); rwa [World.size_alloc] at this
  have hK1 : W1.heap[w.heap.size]? = some (.deferred (some [])) := by
    rw [← hW1]; exact (Below.heap_alloc _ _ _ (by simp)).trans (World.alloc_heap_new w _)
  have hI1 : I 0 W1 := by rw [← hW1]; exact hI.alloc _ (hI.alloc _ h0)
  refine ⟨w.heap.size + 1, [{ target := .collected w.heap.size, args := #[] }], W1, { target := .fn (.func gf) lb, args := #[.func (.yield (w.heap.size + 1)) #[] #[]] }, W1, gf,
    #[.func (.yield (w.heap.size + 1)) #[] #[]] ++ lb, W1, ?_, ?_, ?_, ?_, fun _ => h1, ?_⟩
  · rw [← hW1, hrc]; exact run_enterLoop_outer _ _ _ _ _
  · simp only [resolve, hg]
    simp [go_sem]
  · intro f' hf'; simp [Target.leads] at hf'; subst hf'; exact hFg
  · simp [invoke, go_sem, eg]
  · have low : ∀ {A : World} {row : Option Nat}, (∀ r, row = some r → W1.heap.size ≤ r ∧ ∃ o : Obj, A.heap[r]? = some o ∧ o.isWalk = true) → (∀ r, row = some r → w.heap.size ≤ r ∧ ∃ o : Obj, A.heap[r]? = some o ∧ o.isCells = false) :=
      fun hr r e => by obtain ⟨hB, o, ho, hw⟩ := hr r e; exact ⟨by omega, o, ho, Obj.not_cells_of_walk hw⟩
    refine (iter (w.heap.size + 1)
      (fun k W => I k W ∧ W.heap[w.heap.size + 1]? = some (.loop (rc .ready none)) ∧ W.heap[w.heap.size]? = some (.deferred (some [])))
      (fun _ W => ∃ c, Ix c W ∧ W.heap[w.heap.size + 1]? = some (.loop (rc .done (some c))) ∧ W.heap[w.heap.size]? = some (.deferred (some [])))
      W1
      (fun s A B row hs gr hr => ⟨hI s A B row hs.1 gr (low hr), (grownBy_keeps gr (fun r e => (hr r e).2) hs.2.1 rfl).trans hs.2.1, (grownBy_keeps gr (fun r e => (hr r e).2) hs.2.2 rfl).trans hs.2.2⟩)
      (fun s A B row hs gr hr => by
        obtain ⟨c, hc, hl, hk⟩ := hs
        exact ⟨c, hIx c A B row hc gr (low hr), (grownBy_keeps gr (fun r e => (hr r e).2) hl rfl).trans hl, (grownBy_keeps gr (fun r e => (hr r e).2) hk rfl).trans hk⟩)
      (fun k W' hj => hR k W' hj.1)
      ?_ ⟨hI1, hL1, hK1⟩).mono ?_
    · rintro k args W hk ⟨hi, hl, hd⟩ hy
      have hlt : w.heap.size + 1 < W.heap.size := (Array.getElem?_eq_some_iff.1 hl).1
      have run := run_yield (P := P) (args := args) hl (by rw [hrc]; exact hps k args W hy)
      rw [hrc] at run
      have hl' : (W.alloc (ob args)).heap[w.heap.size + 1]? = some (.loop (rc .ready none)) := (Below.heap_alloc W _ _ hlt).trans hl
      have hd' : (W.alloc (ob args)).heap[w.heap.size]? = some (.deferred (some [])) := (Below.heap_alloc W _ _ (by omega)).trans hd
      have hi' : I k (W.alloc (ob args)) := hI.alloc _ hi
      have hy' : Y k args (W.alloc (ob args)) := hY.alloc (s := (k, args)) _ hy
      have hob : (W.alloc (ob args)).heap[W.heap.size]? = some (ob args) := heap_alloc_new W _
      have hlt' : w.heap.size + 1 < (W.alloc (ob args)).heap.size := by rw [World.size_alloc]; omega
      refine ⟨fn, _, assign, body, run, roundIn_of_wpIn hfn (hassign _ k args W _ hy ⟨_, run_beginRound hl' (by rw [hrc]), ?_⟩)⟩
      clear run
      generalize W.alloc (ob args) = V at *
      have hBw : w.heap.size + 1 < W.heap.size := hlt
      generalize W.heap.size = B at *
      clear hi hl hd hy hlt
      have yb : Y k args (V.putObj (w.heap.size + 1) (.loop { rc .ready none with state := .busy })) := hY.putObj (s := (k, args)) _ hy' (by omega) hl' rfl
      have hl2 : (V.putObj (w.heap.size + 1) (.loop { rc .ready none with state := .busy })).heap[w.heap.size + 1]? = some (.loop { rc .ready none with state := .busy }) := World.putObj_heap_same hlt'
      have hd2 : (V.putObj (w.heap.size + 1) (.loop { rc .ready none with state := .busy })).heap[w.heap.size]? = some (.deferred (some [])) := (World.putObj_heap_other (by omega)).trans hd'
      refine wpIn_mono (hbody _ k args B _ hk (hI.putObj _ hi' (by omega) hl' rfl) yb (by omega) ((World.putObj_heap_other (by omega)).trans hob)) ?_
      have fin : ∀ (jump : Option Code) (W3 : World), KeepsOthers (V.putObj (w.heap.size + 1) (.loop { rc .ready none with state := .busy })) W3 →
          (Instr.endRound (w.heap.size + 1) jump).run P W3 = .ok (.bool jump.isNone) (W3.putObj (w.heap.size + 1) (.loop (rc (if jump.isNone then .ready else .done) jump))) ∧
          W3.heap[w.heap.size + 1]? = some (.loop { rc .ready none with state := .busy }) ∧
          (W3.putObj (w.heap.size + 1) (.loop (rc (if jump.isNone then .ready else .done) jump))).heap[w.heap.size + 1]? = some (.loop (rc (if jump.isNone then .ready else .done) jump)) ∧
          (W3.putObj (w.heap.size + 1) (.loop (rc (if jump.isNone then .ready else .done) jump))).heap[w.heap.size]? = some (.deferred (some [])) := fun jump W3 kept => by
        have hl3 := kept.same _ _ hl2 rfl
        have er := run_endRound (P := P) jump hl3
        rw [hrc] at er ⊢
        exact ⟨er, by rw [hrc] at hl3; exact hl3, World.putObj_heap_same (Array.getElem?_eq_some_iff.1 hl3).1, (World.putObj_heap_other (by omega)).trans (kept.same _ _ hd2 rfl)⟩
      rintro e a3 W3 hp
      cases e with
      | normal =>
        obtain ⟨kept, hi3⟩ := hp
        obtain ⟨er, hl3, hl4, hd4⟩ := fin none W3 kept
        exact ⟨_, _, er, .inl ⟨rfl, hI.putObj _ hi3 (by omega) hl3 rfl, hl4, hd4⟩⟩
      | ret =>
        obtain ⟨kept, hi3⟩ := hp
        obtain ⟨er, hl3, hl4, hd4⟩ := fin (some .ret) W3 kept
        exact ⟨_, _, er, .inr ⟨rfl, .ret, hIx.putObj _ hi3 (by omega) hl3 rfl, hl4, hd4⟩⟩
      | exit id =>
        obtain ⟨kept, hi3⟩ := hp
        obtain ⟨er, hl3, hl4, hd4⟩ := fin (some (.exit id)) W3 kept
        exact ⟨_, _, er, .inr ⟨rfl, .exit id, hIx.putObj _ hi3 (by omega) hl3 rfl, hl4, hd4⟩⟩
      | goto t =>
        obtain ⟨kept, hi3⟩ := hp
        obtain ⟨er, hl3, hl4, hd4⟩ := fin (some (.goto t)) W3 kept
        exact ⟨_, _, er, .inr ⟨rfl, .goto t, hIx.putObj _ hi3 (by omega) hl3 rfl, hl4, hd4⟩⟩
      | panic ch => exact hp.elim
      | outgrown => exact hp.elim
    · rintro e W2 ⟨⟨v, rfl⟩, (⟨hi, hl, hd⟩ | ⟨c, hi, hl, hd⟩)⟩
      · exact ⟨none, _, by have := run_endLoop (P := P) hl (by rw [hrc]; simp); rw [hrc] at this; exact this, hdone _ _ (Nat.le_refl _) (hI.putObj _ hi (by omega) hl rfl) ((World.putObj_heap_other (by omega)).trans hd)⟩
      · exact ⟨some c, _, by have := run_endLoop (P := P) hl (by rw [hrc]; simp); rw [hrc] at this; exact this, hstop _ c _ (Nat.le_refl _) (hIx.putObj _ hi (by omega) hl rfl) ((World.putObj_heap_other (by omega)).trans hd)⟩
end Go.Proofs.YtogmbehomilalaaGreatDoor
end

/- The reference's names and bounds. -/
section
namespace Go.Proofs.YtogmbehomilalaaGreatDoor
open Go Go.RowKit Go.Deep

theorem ret_b {a b : Bool} (h : a = b) : Ending.returned (.bool a) = .returned (.bool b) := by rw [h]
set_option maxHeartbeats 400000 in
theorem r_letter (c : Int) (w : World) : Calls Tryz.prog 108 #[.int .u8 c] w fun e w' => e = .returned (.bool (letB c)) ∧ w = w' := by
  by_cases h : 97 ≤ c
  · have e1 : letB c = decide (c ≤ 122) := by simp [letB, h]
    rw [e1]
    go_enter Tryz.func108, Tryz.ntmps108
    go_wp2
    go_ret
    exact ⟨rfl, rfl⟩
  · have e1 : letB c = false := by simp [letB, h]
    rw [e1]
    go_enter Tryz.func108, Tryz.ntmps108
    go_wp2
    go_ret
    exact ⟨rfl, rfl⟩
set_option maxHeartbeats 1000000 in
theorem r_further (c : Int) (w : World) : Calls Tryz.prog 109 #[.int .u8 c] w fun e w' => e = .returned (.bool (chrB c)) ∧ w = w' := by
  have HL := Lib.hid r_letter
  have HX : Hid (chrB c = (letB c || ((decide (48 ≤ c) && decide (c ≤ 57)) || c == 95))) := rfl
  go_enter Tryz.func109, Tryz.ntmps109
  go_wp2_with fail
  refine (HL.out _ _).mono ?_
  rintro e w1 ⟨rfl, rfl⟩
  generalize letB c = L at *
  cases L
  · by_cases g1 : 48 ≤ c
    · by_cases g2 : c ≤ 57
      · rw [decide_eq_true g1, decide_eq_true g2] at HX
        go_wp2
        go_ret
        exact ⟨ret_b (by rw [HX.out]; rfl), rfl⟩
      · rw [decide_eq_true g1] at HX
        go_wp2
        go_ret
        exact ⟨ret_b (by rw [HX.out]; rfl), rfl⟩
    · rw [decide_eq_false g1] at HX
      go_wp2
      go_ret
      exact ⟨ret_b (by rw [HX.out]; rfl), rfl⟩
  · go_wp2
    go_ret
    exact ⟨ret_b (by rw [HX.out]; simp), rfl⟩

set_option maxRecDepth 100000 in
set_option maxHeartbeats 2000000 in
theorem r_Name (s : ByteArray) (w : World) (hs : s.size ≤ 9223372036854775807) : Calls Tryz.prog 70 #[.string s] w fun e w' => e = .returned (.bool (nameB s)) ∧ w = w' := by
  have HL := Lib.hid r_letter
  have HF := Lib.hid r_further
  by_cases h0 : s.size = 0
  · have e1 : nameB s = false := by simp [nameB, h0]
    have h0' : (s.size : Int) < 1 := by omega
    rw [e1]
    clear e1
    go_enter Tryz.func70, Tryz.ntmps70
    go_wp2
    go_ret
    exact ⟨rfl, rfl⟩
  · have h0' : ¬ (s.size : Int) < 1 := by omega
    by_cases h1 : s.size ≤ 12
    · have hp : 0 < s.size := by omega
      have h1' : ¬ (s.size : Int) > 12 := by omega
      have HB := Lib.hid (byt_eq s 0 hp)
      have HN : Hid (nameB s = (letB (byt s 0) && nameTo s s.size)) := by show _ = _; simp [nameB, hp, h1]
      have HS := Lib.hid h1
      rw [HN.out]
      clear h0 h1
      go_enter Tryz.func70, Tryz.ntmps70
      go_wp2_with fail
      refine (HL.out _ _).mono ?_
      rintro e w1 ⟨rfl, rfl⟩
      rw [← HB.out]
      generalize hL : letB (byt s 0) = L
      have HLv := Lib.hid hL
      clear hL
      cases L
      · go_wp2
        go_ret
        exact ⟨ret_b (by rw [HLv.out]; rfl), rfl⟩
      · go_wp2
        go_loop [3] (fun i => ∃ k : Nat, k ≤ s.size ∧ i = .int .i64 k ∧ Hid (nameTo s k = true)) (fun i => s.size - (intOf i).toNat)
        case atStart => exact ⟨0, Nat.zero_le _, rfl, rfl⟩
        case round =>
          obtain ⟨k, hk, rfl, HK⟩ := hrel
          by_cases hlt : k < s.size
          · have HBk := Lib.hid (byt_eq s k hlt)
            have HC : Hid (chrB (s[k].toNat : Int) = true → nameTo s (k + 1) = true) := fun h => by rw [nameTo_succ, HK.out, HBk.out, h]; rfl
            have HE : Hid (chrB (s[k].toNat : Int) = false → nameTo s s.size = false) := fun h => nameTo_le (k := k + 1) (by rw [nameTo_succ, HBk.out, h, Bool.and_false]) (by omega)
            go_wp2_with fail
            refine (HF.out _ _).mono ?_
            rintro e w1 ⟨rfl, rfl⟩
            generalize chrB (s[k].toNat : Int) = L at *
            cases L
            · have HR := Lib.hid (HE.out rfl)
              go_wp2
              go_ret
              exact ⟨ret_b (by rw [HLv.out, HR.out]; rfl), rfl⟩
            · have HR := Lib.hid (HC.out rfl)
              go_wp2
              go_round
              case rel => exact ⟨k + 1, by omega, by go_num, HR.out⟩
              case measure => simp [intOf]; omega
          · obtain rfl : k = s.size := by omega
            go_wp2
            go_ret
            exact ⟨ret_b (by rw [HLv.out, HK.out]; rfl), rfl⟩
    · have e1 : nameB s = false := by simp [nameB, h1]
      have h1' : (s.size : Int) > 12 := by omega
      rw [e1]
      clear e1
      go_enter Tryz.func70, Tryz.ntmps70
      go_wp2
      go_ret
      exact ⟨rfl, rfl⟩

def boundB (lo hi : Int) : Bool := if lo < -1073741824 ∨ lo > 1073741824 ∨ hi < lo ∨ hi > 1073741825 then false else true
set_option maxHeartbeats 2000000 in
theorem r_bounds (s : ByteArray) (lo hi : Int) (w : World) : Calls Tryz.prog 107 #[DimV s lo hi] w fun e w' => e = .returned (.bool (boundB lo hi)) ∧ Below w.heap.size w w' := by
  have HX : Hid (boundB lo hi = if lo < -1073741824 ∨ lo > 1073741824 ∨ hi < lo ∨ hi > 1073741825 then false else true) := rfl
  have hb : Below w.heap.size w (w.alloc (.cells #[.string s, .int .i64 lo, .int .i64 hi] 57)) := (Below.refl _ _).alloc (Nat.le_refl _) _
  go_enter Tryz.func107, Tryz.ntmps107
  by_cases g1 : lo < -1073741824
  · have g1' : ¬ lo ≥ -1073741824 := by omega
    go_wp2
    go_ret
    exact ⟨ret_b (by rw [HX.out, if_pos (by omega)]), hb⟩
  · have g1' : lo ≥ -1073741824 := by omega
    by_cases g2 : lo > 1073741824
    · have g2' : ¬ lo ≤ 1073741824 := by omega
      go_wp2
      go_ret
      exact ⟨ret_b (by rw [HX.out, if_pos (by omega)]), hb⟩
    · have g2' : lo ≤ 1073741824 := by omega
      by_cases g3 : hi < lo
      · have g3' : ¬ hi ≥ lo := by omega
        go_wp2
        go_ret
        exact ⟨ret_b (by rw [HX.out, if_pos (by omega)]), hb⟩
      · have g3' : hi ≥ lo := by omega
        by_cases g4 : hi > 1073741825
        · have g4' : ¬ hi ≤ 1073741825 := by omega
          go_wp2
          go_ret
          exact ⟨ret_b (by rw [HX.out, if_pos (by omega)]), hb⟩
        · have g4' : hi ≤ 1073741825 := by omega
          go_wp2
          go_ret
          exact ⟨ret_b (by rw [HX.out, if_neg (by omega)]), hb⟩
set_option maxRecDepth 100000 in
set_option maxHeartbeats 1000000 in
theorem r_Last (s : ByteArray) (lo hi : Int) (w : World) : Calls Tryz.prog 110 #[DimV s lo hi] w fun e w' => e = .returned (.int .i64 (lastZ hi)) ∧ Below w.heap.size w w' := by
  by_cases h : hi ≤ 1073741824
  · have e1 : lastZ hi = hi := if_pos h
    rw [e1]
    go_enter Tryz.func110, Tryz.ntmps110
    go_wp2
    go_ret
    refine ⟨?_, (Below.refl _ _).alloc (Nat.le_refl _) _⟩
    first
    | rfl
    | (show Ending.returned (.int .i64 (min hi 1073741824)) = _; rw [Int.min_eq_left h])
  · have e1 : lastZ hi = 1073741824 := if_neg h
    rw [e1]
    go_enter Tryz.func110, Tryz.ntmps110
    go_wp2
    go_ret
    refine ⟨?_, (Below.refl _ _).alloc (Nat.le_refl _) _⟩
    first
    | rfl
    | (show Ending.returned (.int .i64 (min hi 1073741824)) = _; rw [Int.min_eq_right (by omega)])
end Go.Proofs.YtogmbehomilalaaGreatDoor
end

/- The reference's error of dimensions. -/
section
namespace Go.Proofs.YtogmbehomilalaaGreatDoor
open Go Go.RowKit Go.Deep

/-- Does one of the first k names equal s? -/
def dupTo (nm : Nat → ByteArray) (s : ByteArray) : Nat → Bool
  | 0 => false
  | k + 1 => dupTo nm s k || decide (nm k = s)
theorem dupTo_le {nm : Nat → ByteArray} {s : ByteArray} {k n : Nat} (h : dupTo nm s k = true) (hn : k ≤ n) : dupTo nm s n = true := by
  induction n with
  | zero => obtain rfl : k = 0 := by omega
            exact h
  | succ n ih =>
    by_cases e : k = n + 1
    · rw [← e]; exact h
    · rw [dupTo, ih (by omega)]; rfl
theorem dup_in (nm : Nat → ByteArray) (s : ByteArray) : ∀ k, inN (metK [] nm k) s = dupTo nm s k
  | 0 => inN_false.2 (by simp [metK])
  | k + 1 => by
    have ih := dup_in nm s k
    rw [dupTo, ← ih]
    by_cases h : nm k = s
    · rw [decide_eq_true h, Bool.or_true]
      exact inN_true.2 (by rw [metK, h]; exact List.mem_cons_self)
    · rw [decide_eq_false h, Bool.or_false]
      cases h2 : inN (metK [] nm k) s
      · exact inN_false.2 (by rw [metK]; intro h3; rcases List.mem_cons.1 h3 with h4 | h4; · exact h h4.symm
                              · exact inN_false.1 h2 h4)
      · exact inN_true.2 (by rw [metK]; exact List.mem_cons_of_mem _ (inN_true.1 h2))
theorem dimE_of (nm : Nat → ByteArray) (s : ByteArray) (k : Nat) (lo hi : Int) : dimE (metK [] nm k) s lo hi = if nameB s = false then 11 else if dupTo nm s k = true then 11 else if boundB lo hi = true then 0 else 3 := by
  rw [dimE, dup_in]
  cases h1 : nameB s
  · rfl
  · cases h2 : dupTo nm s k
    · unfold boundB
      by_cases h3 : lo < -1073741824 ∨ lo > 1073741824 ∨ hi < lo ∨ hi > 1073741825
      · rw [if_pos h3, if_pos h3]; rfl
      · rw [if_neg h3, if_neg h3]; rfl
    · rfl

theorem str_eq {s t : ByteArray} (h : (s.toList == t.toList) = true) : s = t := by
  have h1 : s.toList = t.toList := by simpa using h
  rw [ByteArray.toList_eq, ByteArray.toList_eq] at h1
  obtain ⟨⟨a⟩⟩ := s
  obtain ⟨⟨b⟩⟩ := t
  simp only at h1
  rw [h1]

set_option maxRecDepth 100000 in
set_option maxHeartbeats 4000000 in
theorem r_Dims (w : World) (A : Option Addr) (n cap : Nat) (nm : Nat → ByteArray) (lo hi : Nat → Int) (hd : DimsAt w A n nm lo hi) (hs : ∀ k, k < n → (nm k).size ≤ 9223372036854775807) (hn10 : n ≤ 1000) :
    Calls Tryz.prog 69 #[.slice A n cap] w fun e w' => e = .returned (.int .i64 (dimsZ nm lo hi n)) ∧ Below w.heap.size w w' := by
  have HD := Lib.hid hd
  have HS := Lib.hid hs
  have HNm := Lib.hid r_Name
  have HBd := Lib.hid r_bounds
  clear hd hs
  by_cases hn : n = 0 ∨ 4 < n
  · have e1 : dimsZ nm lo hi n = 13 := if_pos hn
    rw [e1]
    rcases hn with rfl | hn
    · go_enter Tryz.func69, Tryz.ntmps69
      go_wp2
      go_ret
      exact ⟨rfl, Below.refl _ _⟩
    · have h1 : ¬ (n : Int) < 1 := by omega
      have h2 : (n : Int) > 4 := by omega
      clear hn e1
      go_enter Tryz.func69, Tryz.ntmps69
      go_wp2
      go_ret
      exact ⟨rfl, Below.refl _ _⟩
  · have h1 : ¬ (n : Int) < 1 := by omega
    have h2 : ¬ (n : Int) > 4 := by omega
    have h3 : n ≤ 4 := by omega
    have HZ : Hid (dimsZ nm lo hi n = dimsTo [] nm lo hi n) := if_neg hn
    rw [HZ.out]
    clear hn HZ
    go_enter Tryz.func69, Tryz.ntmps69
    go_wp2
    go_loopw [3, 4] (fun i _ wr => ∃ k : Nat, k ≤ n ∧ i = .int .i64 k ∧ Hid (dimsTo [] nm lo hi k = 0 ∧ Below w.heap.size w wr)) (fun i _ _ => n - (intOf i).toNat)
    case atStart => exact ⟨0, Nat.zero_le _, rfl, rfl, Below.refl _ _⟩
    case round =>
      obtain ⟨k, hk, rfl, HK⟩ := hrel
      by_cases hlt : k < n
      · have HB := Lib.hid HK.out.2
        obtain ⟨bd, o, rfl, hbd, hc⟩ := (HD.out.below HB.out) (by omega)
        obtain ⟨c0, c1, c2⟩ := hc k hlt
        have HCW : Hid (∀ W, Below w.heap.size w W → W.cell? ⟨bd, o + k * 3, none⟩ = some (.string (nm k)) ∧ W.cell? ⟨bd, o + k * 3 + 1, none⟩ = some (.int .i64 (lo k)) ∧ W.cell? ⟨bd, o + k * 3 + 2, none⟩ = some (.int .i64 (hi k))) := fun W hW => by
          obtain ⟨bd', o', e1, _, hc'⟩ := (HD.out.below hW) (by omega)
          injection e1 with e1
          injection e1 with e1 e2
          subst e1 e2
          exact hc' k hlt
        clear hc
        have HT : Hid (dimsTo [] nm lo hi (k + 1) = if nameB (nm k) = false then 11 else if dupTo nm (nm k) k = true then 11 else if boundB (lo k) (hi k) = true then 0 else 3) := by show _ = _; rw [dimsTo, if_pos HK.out.1, dimE_of]
        have HE : Hid (dimsTo [] nm lo hi (k + 1) ≠ 0 → dimsTo [] nm lo hi n = dimsTo [] nm lo hi (k + 1)) := fun h => dimsTo_le h (by omega)
        have HNk := Lib.hid (fun W => HNm.out (nm k) W (HS.out k hlt))
        generalize hs9 : nm k = s at *
        have HSN := Lib.hid hs9
        clear hs9
        generalize lo k = l0 at *
        generalize hi k = h0 at *
        obtain ⟨D, hDe⟩ : ∃ D, dimsTo [] nm lo hi (k + 1) = D := ⟨_, rfl⟩
        have HDe := Lib.hid hDe
        rw [hDe] at HE HT
        clear hDe
        go_wp2_with fail
        refine (HNk.out _).mono ?_
        rintro e w1 ⟨rfl, rfl⟩
        cases hb : nameB s
        · have HD1 : Hid (dimsTo [] nm lo hi n = 11) := by
            have h9 : D = 11 := by rw [HT.out, if_pos hb]
            exact (HE.out (by rw [h9]; decide)).trans h9
          go_wp2
          go_ret
          exact ⟨by rw [HD1.out]; rfl, HB.out⟩
        · have HT2 : Hid (D = if dupTo nm s k = true then 11 else if boundB l0 h0 = true then 0 else 3) := by show _ = _; rw [HT.out, if_neg (by rw [hb]; decide)]
          clear hb HT HNk
          go_wp2
          obtain ⟨wo, rfl⟩ : ∃ wo, wo = wr := ⟨_, rfl⟩
          go_loopw [4] (fun i wr => ∃ j : Nat, j ≤ k ∧ i = .int .i64 j ∧ Hid (dupTo nm s j = false) ∧ Hid (Below w.heap.size w wr)) (fun i _ => k - (intOf i).toNat)
          case atStart => exact ⟨0, Nat.zero_le _, rfl, rfl, HB.out⟩
          case round =>
            obtain ⟨j, hj, rfl, HJ, HBj⟩ := hrel
            by_cases hlt2 : j < k
            · have HCC : Hid (∀ W, Below w.heap.size w W → W.cell? ⟨bd, o + j * 3, none⟩ = some (.string (nm j)) ∧ W.cell? ⟨bd, o + k * 3, none⟩ = some (.string s)) := fun W hW => by
                obtain ⟨bd', o', e1, _, hc'⟩ := (HD.out.below hW) (by omega)
                injection e1 with e1
                injection e1 with e1 e2
                subst e1 e2
                refine ⟨(hc' j (by omega)).1, ?_⟩
                rw [(hc' k hlt).1, HSN.out]
              obtain ⟨y0, y1⟩ := HCC.out wr HBj.out
              have HU : Hid (dupTo nm s (j + 1) = decide (nm j = s)) := by show _ = _; rw [dupTo, HJ.out, Bool.false_or]
              have HUl : Hid (dupTo nm s (j + 1) = true → dupTo nm s k = true) := fun h => dupTo_le h (by omega)
              generalize nm j = t at *
              by_cases he : t = s
              · subst he
                have HD1 : Hid (dimsTo [] nm lo hi n = 11) := by
                  have h9 : D = 11 := by rw [HT2.out, if_pos (HUl.out (by rw [HU.out, decide_eq_true rfl]))]
                  exact (HE.out (by rw [h9]; decide)).trans h9
                go_wp2
                go_quiet (fail)
                go_wp2
                go_ret
                exact ⟨by rw [HD1.out]; rfl, drewB HBj.out _⟩
              · have h5 : (t.toList == s.toList) = false := by
                  cases h6 : t.toList == s.toList
                  · rfl
                  · exact absurd (str_eq h6) he
                have HR : Hid (dupTo nm s (j + 1) = false) := by show _ = _; rw [HU.out, decide_eq_false he]
                go_wp2
                go_quiet (fail)
                go_wp2
                go_roundw
                case rel => exact ⟨j + 1, by omega, by go_num, HR.out, drewB HBj.out _⟩
                case measure => simp [intOf]; omega
            · obtain rfl : j = k := by omega
              have HT3 : Hid (D = if boundB l0 h0 = true then 0 else 3) := by show _ = _; rw [HT2.out, if_neg (by rw [HJ.out]; decide)]
              have HBk := Lib.hid (fun W => HBd.out s l0 h0 W)
              obtain ⟨k0, k1, k2⟩ := HCW.out wr HBj.out
              clear c0 c1 c2
              cases hb2 : boundB l0 h0
              · rw [hb2] at HBk
                have HD1 : Hid (dimsTo [] nm lo hi n = 3) := by
                  have h9 : D = 3 := by rw [HT3.out, if_neg (by rw [hb2]; decide)]
                  exact (HE.out (by rw [h9]; decide)).trans h9
                clear hb2
                go_wp2_with fail
                refine (HBk.out _).mono ?_
                rintro e w2 ⟨rfl, hb2⟩
                have HB2 : Hid (Below w.heap.size w w2) := st HBj.out hb2
                go_wp2
                go_ret
                exact ⟨by rw [HD1.out]; rfl, HB2.out⟩
              · rw [hb2] at HBk
                have HD1 : Hid (D = 0) := by show _ = _; rw [HT3.out, if_pos hb2]
                clear hb2
                go_wp2_with fail
                refine (HBk.out _).mono ?_
                rintro e w2 ⟨rfl, hb2⟩
                have HB2 : Hid (Below w.heap.size w w2) := st HBj.out hb2
                go_wp2
                go_roundw
                case rel => exact ⟨j + 1, by omega, by go_num, HDe.out.trans HD1.out, HB2.out⟩
                case measure => simp [intOf]; omega
      · obtain rfl : k = n := by omega
        go_wp2
        go_ret
        exact ⟨by rw [HK.out.1]; rfl, HK.out.2⟩
end Go.Proofs.YtogmbehomilalaaGreatDoor
end

/- Lists of dimensions, attributes and values compared: what is asked, and the reference. -/
section
namespace Go.Proofs.YtogmbehomilalaaGreatDoor
open Go Go.RowKit Go.Deep

/-- Do the first k have it? -/
def allTo (p : Nat → Bool) : Nat → Bool
  | 0 => true
  | k + 1 => allTo p k && p k
theorem allTo_le {p : Nat → Bool} {k n : Nat} (h : allTo p k = false) (hn : k ≤ n) : allTo p n = false := by
  induction n with
  | zero => obtain rfl : k = 0 := by omega
            exact h
  | succ n ih =>
    by_cases e : k = n + 1
    · rw [← e]; exact h
    · rw [allTo, ih (by omega)]; rfl
theorem allTo_iff {p : Nat → Bool} {n : Nat} : allTo p n = true ↔ ∀ k, k < n → p k = true := by
  induction n with
  | zero => simp [allTo]
  | succ n ih =>
    rw [allTo, Bool.and_eq_true, ih]
    constructor
    · rintro ⟨h1, h2⟩ k hk
      by_cases e : k = n
      · rw [e]; exact h2
      · exact h1 k (by omega)
    · exact fun h => ⟨fun k hk => h k (by omega), h n (by omega)⟩
def dqQ (nm nm' : Nat → ByteArray) (lo lo' : Nat → Int) (hi hi' : Nat → Int) (k : Nat) : Bool := decide (nm k = nm' k) && (lo k == lo' k && (hi k == hi' k))
def sameD (n n' : Nat) (nm nm' : Nat → ByteArray) (lo lo' : Nat → Int) (hi hi' : Nat → Int) : Bool := n == n' && allTo (dqQ nm nm' lo lo' hi hi') n
def aqQ (an an' : Nat → ByteArray) (ty ty' : Nat → Int) (k : Nat) : Bool := decide (an k = an' k) && (ty k == ty' k)
def sameA (n n' : Nat) (an an' : Nat → ByteArray) (ty ty' : Nat → Int) : Bool := n == n' && allTo (aqQ an an' ty ty') n
def vqQ (vk vk' : Nat → Int) (vn vn' : Nat → Int) (vd vd' : Nat → Int) (vs vs' : Nat → ByteArray) (k : Nat) : Bool := vk k == vk' k && (vn k == vn' k && (vd k == vd' k && (decide (vs k = vs' k))))
def sameV (n n' : Nat) (vk vk' : Nat → Int) (vn vn' : Nat → Int) (vd vd' : Nat → Int) (vs vs' : Nat → ByteArray) : Bool := n == n' && allTo (vqQ vk vk' vn vn' vd vd' vs vs') n
set_option maxRecDepth 100000 in
set_option maxHeartbeats 2000000 in
theorem r_SameDims (w : World) (A B : Option Addr) (n c m d : Nat) (nm nm' : Nat → ByteArray) (lo lo' : Nat → Int) (hi hi' : Nat → Int) (ha : DimsAt w A n nm lo hi) (hb : DimsAt w B m nm' lo' hi') (hn : n ≤ 1000000) (hm : m ≤ 1000000) :
    Calls Tryz.prog 42 #[.slice A n c, .slice B m d] w fun e w' => e = .returned (.bool (sameD n m nm nm' lo lo' hi hi')) ∧ Below w.heap.size w w' := by
  have HA := Lib.hid ha
  have HB := Lib.hid hb
  obtain ⟨ve, hve⟩ : ∃ ve, sameD n m nm nm' lo lo' hi hi' = ve := ⟨_, rfl⟩
  rw [hve]
  have HV := Lib.hid hve
  clear ha hb hve
  by_cases h0 : n = m
  · subst h0
    have HE : Hid (ve = allTo (dqQ nm nm' lo lo' hi hi') n) := by show _ = _; rw [← HV.out, sameD, beq_self_eq_true, Bool.true_and]
    go_enter Tryz.func42, Tryz.ntmps42
    go_wp2
    go_loopw [5] (fun i wr => ∃ k : Nat, k ≤ n ∧ i = .int .i64 k ∧ Hid (allTo (dqQ nm nm' lo lo' hi hi') k = true) ∧ Hid (Below w.heap.size w wr)) (fun i _ => n - (intOf i).toNat)
    case atStart => exact ⟨0, Nat.zero_le _, rfl, rfl, Below.refl _ _⟩
    case round =>
      obtain ⟨k, hk, rfl, HK, HBw⟩ := hrel
      by_cases hlt : k < n
      · obtain ⟨b1, o1, rfl, _, hc1⟩ := (HA.out.below HBw.out) (by omega)
        obtain ⟨x0, x1, x2⟩ := hc1 k hlt
        obtain ⟨b2, o2, rfl, _, hc2⟩ := (HB.out.below HBw.out) (by omega)
        obtain ⟨y0, y1, y2⟩ := hc2 k hlt
        clear hc1 hc2
        have HS : Hid (allTo (dqQ nm nm' lo lo' hi hi') (k + 1) = (dqQ nm nm' lo lo' hi hi') k) := by show _ = _; rw [allTo, HK.out, Bool.true_and]
        have HD : Hid ((dqQ nm nm' lo lo' hi hi') k = (decide (nm k = nm' k) && (lo k == lo' k && (hi k == hi' k)))) := rfl
        have HL : Hid ((dqQ nm nm' lo lo' hi hi') k = false → ve = false) := fun h => by rw [HE.out]; exact allTo_le (k := k + 1) (by rw [HS.out, h]) (by omega)
        generalize nm k = nm9 at *
        generalize nm' k = nm8 at *
        generalize lo k = lo9 at *
        generalize lo' k = lo8 at *
        generalize hi k = hi9 at *
        generalize hi' k = hi8 at *
        by_cases g0 : nm9 = nm8
        · subst g0
          by_cases g1 : lo9 = lo8
          · subst g1
            by_cases g2 : hi9 = hi8
            · subst g2
              have HR : Hid (allTo (dqQ nm nm' lo lo' hi hi') (k + 1) = true) := by show _ = _; rw [HS.out, HD.out]; simp
              clear HS HD HL
              go_wp2
              go_quiet (fail)
              go_wp2
              go_roundw
              case rel => exact ⟨k + 1, by omega, by go_num, HR.out, drewB HBw.out _⟩
              case measure => simp [intOf]; omega
            · have HF : Hid (ve = false) := HL.out (by rw [HD.out]; simp [g2])
              clear HS HD HL
              go_wp2
              go_quiet (fail)
              go_wp2
              go_ret
              exact ⟨by rw [HF.out]; rfl, drewB HBw.out _⟩
          · have HF : Hid (ve = false) := HL.out (by rw [HD.out]; simp [g1])
            clear HS HD HL
            go_wp2
            go_quiet (fail)
            go_wp2
            go_ret
            exact ⟨by rw [HF.out]; rfl, drewB HBw.out _⟩
        · have HF : Hid (ve = false) := HL.out (by rw [HD.out]; simp [g0])
          have e0 : ¬ nm9.toList = nm8.toList := fun h => g0 (str_eq (by rw [h]; simp))
          clear HS HD HL
          go_wp2
          go_quiet (fail)
          go_wp2
          go_ret
          exact ⟨by rw [HF.out]; rfl, drewB HBw.out _⟩
      · obtain rfl : k = n := by omega
        go_wp2
        go_ret
        exact ⟨by rw [HE.out, HK.out]; rfl, HBw.out⟩
  · have HE : Hid (ve = false) := by show _ = _; rw [← HV.out, sameD, beq_false_of_ne h0, Bool.false_and]
    have h1 : ((n : Int) != (m : Int)) = true := by rw [bne_iff_ne]; omega
    go_enter Tryz.func42, Tryz.ntmps42
    go_wp2
    go_ret
    exact ⟨by rw [HE.out]; rfl, Below.refl _ _⟩
set_option maxRecDepth 100000 in
set_option maxHeartbeats 2000000 in
theorem r_SameAttrs (w : World) (A B : Option Addr) (n c m d : Nat) (an an' : Nat → ByteArray) (ty ty' : Nat → Int) (ha : AttrsAt w A n an ty) (hb : AttrsAt w B m an' ty') (hn : n ≤ 1000000) (hm : m ≤ 1000000) :
    Calls Tryz.prog 43 #[.slice A n c, .slice B m d] w fun e w' => e = .returned (.bool (sameA n m an an' ty ty')) ∧ Below w.heap.size w w' := by
  have HA := Lib.hid ha
  have HB := Lib.hid hb
  obtain ⟨ve, hve⟩ : ∃ ve, sameA n m an an' ty ty' = ve := ⟨_, rfl⟩
  rw [hve]
  have HV := Lib.hid hve
  clear ha hb hve
  by_cases h0 : n = m
  · subst h0
    have HE : Hid (ve = allTo (aqQ an an' ty ty') n) := by show _ = _; rw [← HV.out, sameA, beq_self_eq_true, Bool.true_and]
    go_enter Tryz.func43, Tryz.ntmps43
    go_wp2
    go_loopw [5] (fun i wr => ∃ k : Nat, k ≤ n ∧ i = .int .i64 k ∧ Hid (allTo (aqQ an an' ty ty') k = true) ∧ Hid (Below w.heap.size w wr)) (fun i _ => n - (intOf i).toNat)
    case atStart => exact ⟨0, Nat.zero_le _, rfl, rfl, Below.refl _ _⟩
    case round =>
      obtain ⟨k, hk, rfl, HK, HBw⟩ := hrel
      by_cases hlt : k < n
      · obtain ⟨b1, o1, rfl, _, hc1⟩ := (HA.out.below HBw.out) (by omega)
        obtain ⟨x0, x1⟩ := hc1 k hlt
        obtain ⟨b2, o2, rfl, _, hc2⟩ := (HB.out.below HBw.out) (by omega)
        obtain ⟨y0, y1⟩ := hc2 k hlt
        clear hc1 hc2
        have HS : Hid (allTo (aqQ an an' ty ty') (k + 1) = (aqQ an an' ty ty') k) := by show _ = _; rw [allTo, HK.out, Bool.true_and]
        have HD : Hid ((aqQ an an' ty ty') k = (decide (an k = an' k) && (ty k == ty' k))) := rfl
        have HL : Hid ((aqQ an an' ty ty') k = false → ve = false) := fun h => by rw [HE.out]; exact allTo_le (k := k + 1) (by rw [HS.out, h]) (by omega)
        generalize an k = an9 at *
        generalize an' k = an8 at *
        generalize ty k = ty9 at *
        generalize ty' k = ty8 at *
        by_cases g0 : an9 = an8
        · subst g0
          by_cases g1 : ty9 = ty8
          · subst g1
            have HR : Hid (allTo (aqQ an an' ty ty') (k + 1) = true) := by show _ = _; rw [HS.out, HD.out]; simp
            clear HS HD HL
            go_wp2
            go_quiet (fail)
            go_wp2
            go_roundw
            case rel => exact ⟨k + 1, by omega, by go_num, HR.out, drewB HBw.out _⟩
            case measure => simp [intOf]; omega
          · have HF : Hid (ve = false) := HL.out (by rw [HD.out]; simp [g1])
            clear HS HD HL
            go_wp2
            go_quiet (fail)
            go_wp2
            go_ret
            exact ⟨by rw [HF.out]; rfl, drewB HBw.out _⟩
        · have HF : Hid (ve = false) := HL.out (by rw [HD.out]; simp [g0])
          have e0 : ¬ an9.toList = an8.toList := fun h => g0 (str_eq (by rw [h]; simp))
          clear HS HD HL
          go_wp2
          go_quiet (fail)
          go_wp2
          go_ret
          exact ⟨by rw [HF.out]; rfl, drewB HBw.out _⟩
      · obtain rfl : k = n := by omega
        go_wp2
        go_ret
        exact ⟨by rw [HE.out, HK.out]; rfl, HBw.out⟩
  · have HE : Hid (ve = false) := by show _ = _; rw [← HV.out, sameA, beq_false_of_ne h0, Bool.false_and]
    have h1 : ((n : Int) != (m : Int)) = true := by rw [bne_iff_ne]; omega
    go_enter Tryz.func43, Tryz.ntmps43
    go_wp2
    go_ret
    exact ⟨by rw [HE.out]; rfl, Below.refl _ _⟩
set_option maxRecDepth 100000 in
set_option maxHeartbeats 2000000 in
theorem r_SameVals (w : World) (A B : Option Addr) (n c m d : Nat) (vk vk' : Nat → Int) (vn vn' : Nat → Int) (vd vd' : Nat → Int) (vs vs' : Nat → ByteArray) (ha : ValsAt w A n vk vn vd vs) (hb : ValsAt w B m vk' vn' vd' vs') (hn : n ≤ 1000000) (hm : m ≤ 1000000) :
    Calls Tryz.prog 86 #[.slice A n c, .slice B m d] w fun e w' => e = .returned (.bool (sameV n m vk vk' vn vn' vd vd' vs vs')) ∧ Below w.heap.size w w' := by
  have HA := Lib.hid ha
  have HB := Lib.hid hb
  obtain ⟨ve, hve⟩ : ∃ ve, sameV n m vk vk' vn vn' vd vd' vs vs' = ve := ⟨_, rfl⟩
  rw [hve]
  have HV := Lib.hid hve
  clear ha hb hve
  by_cases h0 : n = m
  · subst h0
    have HE : Hid (ve = allTo (vqQ vk vk' vn vn' vd vd' vs vs') n) := by show _ = _; rw [← HV.out, sameV, beq_self_eq_true, Bool.true_and]
    go_enter Tryz.func86, Tryz.ntmps86
    go_wp2
    go_loopw [5] (fun i wr => ∃ k : Nat, k ≤ n ∧ i = .int .i64 k ∧ Hid (allTo (vqQ vk vk' vn vn' vd vd' vs vs') k = true) ∧ Hid (Below w.heap.size w wr)) (fun i _ => n - (intOf i).toNat)
    case atStart => exact ⟨0, Nat.zero_le _, rfl, rfl, Below.refl _ _⟩
    case round =>
      obtain ⟨k, hk, rfl, HK, HBw⟩ := hrel
      by_cases hlt : k < n
      · obtain ⟨b1, o1, rfl, _, hc1⟩ := (HA.out.below HBw.out) (by omega)
        obtain ⟨x0, x1, x2, x3⟩ := hc1 k hlt
        obtain ⟨b2, o2, rfl, _, hc2⟩ := (HB.out.below HBw.out) (by omega)
        obtain ⟨y0, y1, y2, y3⟩ := hc2 k hlt
        clear hc1 hc2
        have HS : Hid (allTo (vqQ vk vk' vn vn' vd vd' vs vs') (k + 1) = (vqQ vk vk' vn vn' vd vd' vs vs') k) := by show _ = _; rw [allTo, HK.out, Bool.true_and]
        have HD : Hid ((vqQ vk vk' vn vn' vd vd' vs vs') k = (vk k == vk' k && (vn k == vn' k && (vd k == vd' k && (decide (vs k = vs' k)))))) := rfl
        have HL : Hid ((vqQ vk vk' vn vn' vd vd' vs vs') k = false → ve = false) := fun h => by rw [HE.out]; exact allTo_le (k := k + 1) (by rw [HS.out, h]) (by omega)
        generalize vk k = vk9 at *
        generalize vk' k = vk8 at *
        generalize vn k = vn9 at *
        generalize vn' k = vn8 at *
        generalize vd k = vd9 at *
        generalize vd' k = vd8 at *
        generalize vs k = vs9 at *
        generalize vs' k = vs8 at *
        by_cases g0 : vk9 = vk8
        · subst g0
          by_cases g1 : vn9 = vn8
          · subst g1
            by_cases g2 : vd9 = vd8
            · subst g2
              by_cases g3 : vs9 = vs8
              · subst g3
                have HR : Hid (allTo (vqQ vk vk' vn vn' vd vd' vs vs') (k + 1) = true) := by show _ = _; rw [HS.out, HD.out]; simp
                clear HS HD HL
                go_wp2
                go_quiet (fail)
                go_wp2
                go_roundw
                case rel => exact ⟨k + 1, by omega, by go_num, HR.out, drewB HBw.out _⟩
                case measure => simp [intOf]; omega
              · have HF : Hid (ve = false) := HL.out (by rw [HD.out]; simp [g3])
                have e3 : ¬ vs9.toList = vs8.toList := fun h => g3 (str_eq (by rw [h]; simp))
                clear HS HD HL
                go_wp2
                go_quiet (fail)
                go_wp2
                go_ret
                exact ⟨by rw [HF.out]; rfl, drewB HBw.out _⟩
            · have HF : Hid (ve = false) := HL.out (by rw [HD.out]; simp [g2])
              clear HS HD HL
              go_wp2
              go_quiet (fail)
              go_wp2
              go_ret
              exact ⟨by rw [HF.out]; rfl, drewB HBw.out _⟩
          · have HF : Hid (ve = false) := HL.out (by rw [HD.out]; simp [g1])
            clear HS HD HL
            go_wp2
            go_quiet (fail)
            go_wp2
            go_ret
            exact ⟨by rw [HF.out]; rfl, drewB HBw.out _⟩
        · have HF : Hid (ve = false) := HL.out (by rw [HD.out]; simp [g0])
          clear HS HD HL
          go_wp2
          go_quiet (fail)
          go_wp2
          go_ret
          exact ⟨by rw [HF.out]; rfl, drewB HBw.out _⟩
      · obtain rfl : k = n := by omega
        go_wp2
        go_ret
        exact ⟨by rw [HE.out, HK.out]; rfl, HBw.out⟩
  · have HE : Hid (ve = false) := by show _ = _; rw [← HV.out, sameV, beq_false_of_ne h0, Bool.false_and]
    have h1 : ((n : Int) != (m : Int)) = true := by rw [bne_iff_ne]; omega
    go_enter Tryz.func86, Tryz.ntmps86
    go_wp2
    go_ret
    exact ⟨by rw [HE.out]; rfl, Below.refl _ _⟩
end Go.Proofs.YtogmbehomilalaaGreatDoor
end
