/- The coordinates of a box, one list after the other. -/
import Derived.Test.YtogmbehomilalaaGreatDoorZRangeOwn
import Derived.Test.YtogmbehomilalaaGreatDoorZSpH
import Derived.Test.YtogmbehomilalaaGreatDoorShelf
import Derived.Shelf.Abstract
import Derived.Shelf.RegionOpen
import Derived.WalkKit
import Derived.OwnWalkIn
import Derived.TacticsInMore
import Derived.LoopNIn
import Derived.LoopIn
import Derived.Sort.LoopGhostIn
import Derived.RegionIn
import Derived.RangeFuncBox
import Derived.OwnWalk
import Derived.RangeFuncKeeps

/- The coordinates of a box, one list after the other. -/
section
namespace Go.Proofs.YtogmbehomilalaaGreatDoor
open Go Go.RowKit Go.Deep Go.Shelf
attribute [local go_sem] Oper.semAt_some

theorem grown_below {w w' : World} (h : Below w.heap.size w w') : w.grownBy w' none := ⟨h.os, h.tape, h.output, h.size, fun k hk _ => h.block k hk⟩
theorem grown_set (W : World) (A i : Nat) (v : Value) : W.grownBy (W.setCell ⟨A, i, none⟩ v) (some A) :=
  ⟨rfl, rfl, rfl, by simp [World.setCell], fun k _ hk => Below.heap_setCell W _ v k (fun h => hk (by rw [h]))⟩
theorem grown_drewN (W : World) (k : Nat) : W.grownBy (W.drewN k) none := ⟨rfl, rfl, rfl, Nat.le_refl _, fun _ _ _ => rfl⟩
/-- A slice of integers copied: in a new block, perhaps with room behind them. -/
theorem c_clone (w : World) (b o n c : Nat) (f : Nat → Int) (h1 : 1 ≤ n) (hn : n ≤ 1000000) (hc : ∀ j, j < n → w.cell? ⟨b, o + j, none⟩ = some (.int .i64 (f j))) :
    Calls Tryz.prog 84 #[.slice (some ⟨b, o, none⟩) n c] w fun e w' => ∃ A cap g, e = .returned (.slice (some ⟨A, 0, none⟩) n cap) ∧ w.heap.size ≤ A ∧ w'.rowIs A 3 cap g ∧ n ≤ cap ∧ (∀ j, j < n → g j = .int .i64 (f j)) ∧ Below w.heap.size w w' := by
  refine (Tryz.slices_Clone_int b o n c ((List.range n).map f) w (by simp) (by omega) (fun j hj => ?_)).mono ?_
  · rw [List.length_map, List.length_range] at hj
    rw [hc j hj]
    simp [List.getD, hj]
  · rintro e w' ⟨v, rfl, ⟨hl, h⟩, -, hb⟩
    rcases h with ⟨-, h0⟩ | ⟨g, cap, cur, rfl, hg, hh, hcap, -, hs, ht⟩
    · omega
    · rw [Nat.mul_one] at hs ht
      refine ⟨g, cap, fun j => cur.getD j undef, rfl, hg, ⟨cur, hh, hs, fun i hi => by simp [Array.getD, hs, hi]⟩, hcap, fun j hj => ?_, hb⟩
      have h2 : cur.toList[j]? = some (.int .i64 (f j)) := by
        rw [← List.getElem?_take_of_lt hj, ht]
        simp [hj]
      rw [Array.getElem?_toList] at h2
      simp [Array.getD_eq_getD_getElem?, h2]

/-- The j-th coordinate of the t-th list. -/
def crdZ (lo : Nat → Int) (e : Nat → Nat) (n t j : Nat) : Int := lo j + (digC e n t j : Int)
/-- What the iterator reads: the box, and its bounds. -/
def ReadsBox (Bb bl ol cl bh oh ch n : Nat) (lo hi : Nat → Int) (W : World) : Prop :=
  W.cell? ⟨Bb, 0, none⟩ = some (.slice (some ⟨bl, ol, none⟩) n cl) ∧ W.cell? ⟨Bb, 1, none⟩ = some (.slice (some ⟨bh, oh, none⟩) n ch) ∧ ∀ k, k < n → W.cell? ⟨bl, ol + k, none⟩ = some (.int .i64 (lo k)) ∧ W.cell? ⟨bh, oh + k, none⟩ = some (.int .i64 (hi k))
/-- What a round is given: a slice with the coordinates. -/
def CrdAt (n : Nat) (lo : Nat → Int) (e : Nat → Nat) (A t : Nat) (v : Value) (W : World) : Prop :=
  ∃ b c g, v = .slice (some ⟨b, 0, none⟩) n c ∧ b ≠ A ∧ n ≤ c ∧ W.rowIs b 3 c g ∧ ∀ j, j < n → g j = .int .i64 (crdZ lo e n t j)
def CrdArg (n : Nat) (lo : Nat → Int) (e : Nat → Nat) (A t : Nat) (args : Array Value) (W : World) : Prop := ∃ v, args = #[v] ∧ CrdAt n lo e A t v W
theorem CrdAt.kept {n : Nat} {lo : Nat → Int} {e : Nat → Nat} {A t : Nat} {v : Value} {W W' : World} {row : Option Nat} (h : CrdAt n lo e A t v W) (hg : W.grownBy W' row) (hr : ∀ r, row = some r → r = A ∨ ∃ o : Obj, W.heap[r]? = some o ∧ ∀ cs, o ≠ .cells cs 3 (0, 0)) : CrdAt n lo e A t v W' := by
  obtain ⟨b, c, g, h1, h2, h3, h4, h5⟩ := h
  refine ⟨b, c, g, h1, h2, h3, h4.of_block (hg.block b h4.lt fun e => ?_), h5⟩
  rcases hr b e.symm with h | ⟨o, ho, hc⟩
  · exact h2 h
  · obtain ⟨cs, hcs, _⟩ := h4
    rw [hcs] at ho
    cases ho
    exact hc cs rfl

set_option maxRecDepth 100000 in
set_option maxHeartbeats 2000000 in
theorem crd_iter (m : Nat) (hm : 1 ≤ m) (Bb bl ol cl bh oh ch n : Nat) (lo hi : Nat → Int) (e : Nat → Nat) (h1 : 1 ≤ n) (hn : n ≤ 1000000) (he : ∀ k, k < n → 1 ≤ e k ∧ hi k = lo k + e k - 1 ∧ -9223372036854775808 ≤ lo k ∧ hi k ≤ 4611686018427387904) :
    IterOwn Fence.wide m Tryz.prog 91 #[.pointer (some ⟨Bb, 0, none⟩)] (ReadsBox Bb bl ol cl bh oh ch n lo hi) (CrdArg n lo e) (volC e n 0) := by
  intro l J0 J Jx W hJ0 hJ hJx hR0 hR hS hY h0
  refine callsIn_of_wp Tryz.func91 rfl trivial ?_ rfl
  simp only [Tryz.ntmps91, List.size_toArray, List.length_cons, List.length_nil, Nat.reduceAdd, Nat.reduceSub, Array.replicate_succ, Array.replicate_zero, List.push_toArray, List.append_toArray, List.nil_append, List.cons_append]
  have hr := hR0 W h0
  have HJ0 := Lib.hid hJ0
  have HJ := Lib.hid hJ
  have HJX := Lib.hid hJx
  have HR := Lib.hid hR
  have HS := Lib.hid hS
  have HY := Lib.hid hY
  have HE := Lib.hid he
  have H0 := Lib.hid h0
  clear hJ0 hJ hJx hR0 hR hS hY he h0
  obtain ⟨b0, b1, hcs⟩ := hr
  have HC := Lib.hid (fun j hj => (hcs j hj).1)
  clear hcs b1
  gi_wp2_with (first
    | (refine ⟨trivial, ?_⟩; gi_at_call 84; refine (callsIn_wide.2 (c_clone _ _ _ _ _ lo h1 hn HC.out)).mono ?_; rintro e w1 ⟨A, cap, g, rfl, hA, hrow, hcap, hgv, hb1⟩))
  have H1 : Hid (J A 0 w1) := HS.out A w1 (HJ0.out _ _ H0.out (grown_below hb1)) hA (hrow.lt)
  have hV : 1 ≤ volC e n 0 := volC_pos' (fun k hk => (HE.out k hk).1) (by omega)
  clear H0 HC b0 hb1
  gi_loopg [4] (volC e n 0) (fun gg _ wr => ∃ (t : Nat) (g : Nat → Value), gg = volC e n 0 - t ∧ t < volC e n 0 ∧ wr.rowIs A 3 cap g ∧ Hid (∀ j, j < n → g j = .int .i64 (crdZ lo e n t j)) ∧ Hid (J A t wr))
  case atStart => exact ⟨0, g, by omega, by omega, hrow, fun j hj => by rw [hgv j hj, crdZ, digC_zero]; simp, H1.out⟩
  case round =>
    obtain ⟨t, g2, rfl, ht, hrow2, HG, HJt⟩ := hrel
    have HCt : Hid (∀ j, j < n → wr.cell? ⟨A, 0 + j, none⟩ = some (.int .i64 (crdZ lo e n t j))) := fun j hj => by rw [Nat.zero_add, hrow2.cell (i := j) (by omega), HG.out j hj]
    have hAl := hrow2.lt
    gi_wp2_with (first
      | (refine ⟨trivial, ?_⟩; gi_at_call 84; refine (callsIn_wide.2 (c_clone wr A 0 n cap (crdZ lo e n t) h1 hn HCt.out)).mono ?_; rintro e9 w2 ⟨b2, cap2, g3, rfl, hb2, hrow3, hcap3, hg3, hb3⟩; have HJ2 : Hid (J A t w2) := HJ.out A t hA _ _ none HJt.out (grown_below hb3) (fun r h => by cases h); obtain ⟨fn, tm, asg, bd, hy, hround⟩ := HY.out A t #[.slice (some ⟨b2, 0, none⟩) n cap2] w2 ht hA (by have := hb3.size; omega) HJ2.out ⟨_, rfl, b2, cap2, g3, rfl, by omega, hcap3, hrow3, hg3⟩))
    refine hround.mono ?_
    rintro e9 W3 (⟨rfl, hj3, hA3⟩ | ⟨rfl, hjx⟩)
    · have hrow4 := (hrow2.of_block (hb3.block A hAl)).of_block hA3
      have HJ3 := Lib.hid hj3
      clear hrow2 hround hy hrow3 hg3 hb3 hj3 hA3 HJ2 HCt
      gi_wp2
      obtain ⟨wo, hwo⟩ : ∃ wo, wo = wr := ⟨_, rfl⟩
      rw [← hwo] at hAl HJt
      clear hwo
      have HB := Lib.hid (fun k hk => (HE.out k hk).1)
      gi_loopg [4] n (fun gg i wr => ∃ (mm : Nat) (g : Nat → Value), gg = 0 + mm ∧ mm ≤ n ∧ i = .int .i64 ((mm : Int) - 1) ∧ wr.rowIs A 3 cap g ∧ Hid (∀ j, j < mm → g j = .int .i64 (crdZ lo e n t j)) ∧ Hid (∀ j, mm ≤ j → j < n → g j = .int .i64 (lo j)) ∧ Hid (volC e n mm ∣ t + 1) ∧ Hid (J A (t + 1) wr))
      case atStart => exact ⟨n, g2, by omega, Nat.le_refl _, rfl, hrow4, HG.out, fun j h2 h3 => absurd h3 (by omega), by rw [volC_end]; exact Nat.one_dvd _, HJ3.out⟩
      case round =>
        obtain ⟨mm, g5, rfl, hmm, rfl, hrow5, HG5, HL5, HD5, HJ5⟩ := hrel
        by_cases m0 : mm = 0
        · subst m0
          rw [show (((0 : Nat) : Int) - 1) = -1 by omega]
          gi_wp2
          refine wpIn_wide.2 ?_
          go_quiet (fail)
          gi_wp2
          have htv : t + 1 = volC e n 0 := Nat.le_antisymm (by omega) (Nat.le_of_dvd (by omega) HD5.out)
          have HJF := HJ.out A (t + 1) hA _ _ none HJ5.out (grown_drewN wr nq) (fun r h => by cases h)
          rw [htv] at HJF
          have HJG := Lib.hid HJF
          clear HJF
          refine bodyPost_ret (results_none rfl _ _ _) rfl ?_
          exact ⟨⟨_, rfl⟩, A, hA, .inl HJG.out⟩
        · obtain ⟨q, rfl⟩ : ∃ q, mm = q + 1 := ⟨mm - 1, by omega⟩
          rw [show (((q + 1 : Nat) : Int) - 1) = q by omega]
          obtain ⟨x0, x1, xk⟩ := HR.out A (t + 1) wr HJ5.out
          obtain ⟨y0, y1⟩ := xk q (by omega)
          have z0 := hrow5.cell (i := q) (by omega)
          have zf := hrow5.frozen q
          rw [HG5.out q (by omega)] at z0
          have hek := HE.out q (by omega)
          have hcz : crdZ lo e n t q = lo q + (digC e n t q : Int) := rfl
          have hdl := digC_lt (t := t) HB.out (show q < n by omega)
          by_cases hd : digC e n t q = e q - 1
          · rw [show crdZ lo e n t q = hi q by omega] at z0
            have HCO := Lib.hid (carry_on HB.out (show q < n by omega) HD5.out hd)
            have HQ : Hid (∃ lv, lo q = lv) := ⟨_, rfl⟩
            obtain ⟨lv, hlq⟩ := HQ.out
            have HLQ := Lib.hid hlq
            rw [hlq] at y0
            clear hcz hdl hd hek hlq HQ
            generalize hi q = hv at *
            gi_wp2
            refine wpIn_wide.2 ?_
            go_quiet (fail)
            gi_wp2
            gi_roundg (0 + q)
            case measure => omega
            case rel =>
              refine ⟨q, fun j => if j = q then .int .i64 lv else g5 j, rfl, by omega, rfl, (hrow5.of_block (w' := wr.drewN nq) rfl).set q _, fun j hj => ?_, fun j hj hjn => ?_, HCO.out, ?_⟩
              · show (if j = q then _ else _) = _
                rw [if_neg (by omega)]; exact HG5.out j (by omega)
              · show (if j = q then _ else _) = _
                by_cases ej : j = q
                · rw [if_pos ej, ej, HLQ.out]
                · rw [if_neg ej]; exact HL5.out j (by omega) hjn
              · exact HJ.out A (t + 1) hA _ _ (some A) (HJ.out A (t + 1) hA _ _ none HJ5.out (grown_drewN wr nq) (fun r h => by cases h)) (grown_set _ A q _) (fun r h => .inl (by cases h; rfl))
          · have HCE := Lib.hid (carry_end HB.out (show q < n by omega) HD5.out hd)
            have hxh : (crdZ lo e n t q == hi q) = false := by rw [beq_eq_false_iff_ne]; omega
            have hx1 : -9223372036854775808 ≤ crdZ lo e n t q ∧ crdZ lo e n t q < 4611686018427387904 := by omega
            have HX1 : Hid (crdZ lo e n (t + 1) q = crdZ lo e n t q + 1) := by
              show _ = _
              rw [crdZ, HCE.out.1, hcz]; omega
            have HV1 : Hid (t + 1 < volC e n 0) := by
              show _ < _
              rcases Nat.lt_or_ge (t + 1) (volC e n 0) with h | h
              · exact h
              · exfalso
                have htv : t + 1 = volC e n 0 := by omega
                exact hd (dig_last HB.out (by omega) (by rw [htv]; exact volC_dvd q 0 q (by omega) (by omega)))
            generalize hi q = hv at *
            generalize crdZ lo e n t q = x at *
            clear hcz hdl hd hek
            obtain ⟨hx2, hx3⟩ := hx1
            gi_wp2
            refine wpIn_wide.2 ?_
            go_quiet (fail)
            gi_wp2
            gi_roundg (volC e n 0 - (t + 1))
            case measure => omega
            case rel =>
              refine ⟨t + 1, fun j => if j = q then .int .i64 (x + 1) else g5 j, rfl, HV1.out, (hrow5.of_block (w' := wr.drewN nq) rfl).set q _, fun j hj => ?_, ?_⟩
              · show (if j = q then _ else _) = _
                by_cases ej : j = q
                · rw [if_pos ej, ej, HX1.out]
                · rw [if_neg ej]
                  by_cases hjq : j < q
                  · rw [HG5.out j (by omega), crdZ, crdZ, HCE.out.2.1 j hjq]
                  · rw [HL5.out j (by omega) hj, crdZ, HCE.out.2.2 j (by omega) hj]; simp
              · exact HJ.out A (t + 1) hA _ _ (some A) (HJ.out A (t + 1) hA _ _ none HJ5.out (grown_drewN wr nq) (fun r h => by cases h)) (grown_set _ A q _) (fun r h => .inl (by cases h; rfl))
    · have HJXX := Lib.hid hjx
      clear hjx hround hy
      gi_wp2
      go_end0
      exact ⟨⟨_, rfl⟩, A, hA, .inr HJXX.out⟩
end Go.Proofs.YtogmbehomilalaaGreatDoor
end

/- The lists that an iterator yields, collected. -/
section
namespace Go.Proofs.YtogmbehomilalaaGreatDoor
open Go Go.RowKit Go.Deep Go.Shelf
attribute [local go_sem] Oper.semAt_some

/-- What holds of an element goes on holding while other things change: its own block is one of integers, and is not A. -/
def Elem (E : Nat → Nat → Value → World → Prop) : Prop :=
  ∀ A t v W W' row, E A t v W → W.grownBy W' row → (∀ r, row = some r → r = A ∨ ∃ o : Obj, W.heap[r]? = some o ∧ ∀ cs, o ≠ .cells cs 3 (0, 0)) → E A t v W'
theorem crd_elem (n : Nat) (lo : Nat → Int) (e : Nat → Nat) : Elem (CrdAt n lo e) := fun _ _ _ _ _ _ h hg hr => h.kept hg hr

theorem info_ints : (Tryz.prog.info? 35).map (fun i => (i.zero, i.size, i.bytes)) = some (some (.slice none 0 0), 1, 24) := by kernel_rfl

/-- What is kept between the rounds. -/
structure ColAt (w : World) (E : Nat → Nat → Value → World → Prop) (A k : Nat) (W : World) : Prop where
  box : ∃ v xs, Boxed W w.heap.size 48 v ∧ W.ownsRow (A + 1) 35 1 v k ((List.range k).map xs) ∧ ∀ t, t < k → E A t (xs t) W
  below : Below w.heap.size w W
  ge : w.heap.size < A

theorem own_lt {W : World} {base : Nat} {e : TypeId} {size : Nat} {v : Value} {k : Nat} {xs : List Value} (h : W.ownsRow base e size v k xs) : ∀ g, v.ownBlock = some g → base ≤ g ∧ ∃ cs, W.heap[g]? = some (.cells cs e (0, 0)) := by
  intro g hg
  rcases h.2 with ⟨rfl, _⟩ | ⟨g', cap, cur, rfl, hb, hh, _⟩
  · cases hg
  · simp only [Value.ownBlock, Option.some.injEq] at hg
    subst hg
    exact ⟨hb, cur, hh⟩
theorem own_shape {W : World} {base : Nat} {e : TypeId} {size : Nat} {v : Value} {k : Nat} {xs : List Value} (h : W.ownsRow base e size v k xs) : ∃ p n c, v = .slice p n c := by
  rcases h.2 with ⟨rfl, _⟩ | ⟨g', cap, cur, rfl, _⟩ <;> exact ⟨_, _, _, rfl⟩
theorem own_ne {W : World} {base : Nat} {e : TypeId} {size : Nat} {v : Value} {k : Nat} {xs : List Value} (h : W.ownsRow base e size v k xs) {row : Option Nat} (hr : ∀ r, row = some r → r < base ∨ ∃ o : Obj, W.heap[r]? = some o ∧ o.isCells = false) : v.ownBlock = none ∨ v.ownBlock ≠ row := by
  cases hb : v.ownBlock with
  | none => exact .inl rfl
  | some g =>
    refine .inr fun e9 => ?_
    obtain ⟨h1, cs, h2⟩ := own_lt h g hb
    rcases hr g e9.symm with h3 | ⟨o, h3, h4⟩
    · omega
    · rw [h2] at h3; cases h3; cases h4

theorem own_base {W : World} {base base' : Nat} {e : TypeId} {size : Nat} {v : Value} {k : Nat} {xs : List Value} (h : W.ownsRow base e size v k xs) (hb : base' ≤ base) : W.ownsRow base' e size v k xs :=
  ⟨h.1, h.2.imp id fun ⟨g, cap, cur, h1, h2, h3⟩ => ⟨g, cap, cur, h1, by omega, h3⟩⟩
theorem col_steps {w : World} {E : Nat → Nat → Value → World → Prop} (hE : Elem E) {B A k : Nat} (hB : w.heap.size ≤ B) (hA : w.heap.size < A) : StepsC B A (ColAt w E A k) := by
  intro W W' row ⟨⟨v, xs, h1, h2, h3⟩, h4, h5⟩ hg hr
  have hne : some w.heap.size ≠ row := fun e => by
    rcases hr _ e.symm with h | ⟨_, o, ho, hc⟩
    · omega
    · rw [show W.heap[w.heap.size]? = _ from h1] at ho; cases ho; cases hc
  refine ⟨⟨v, xs, h1.kept hg hne, h2.kept hg (own_ne h2 fun r e => (hr r e).imp (fun h => by omega) (fun h => h.2)), fun t ht => hE _ _ _ _ _ _ (h3 t ht) hg fun r e => (hr r e).imp id fun ⟨_, o, ho, hc⟩ => ⟨o, ho, fun cs h => by subst h; cases hc⟩⟩, h4.grown hg h4.size (fun r e => ?_), h5⟩
  rcases hr r e with h | ⟨h, _⟩ <;> omega

set_option maxRecDepth 100000 in
set_option maxHeartbeats 2000000 in
theorem c_appendSeq (w : World) (g : Nat) (lb : Array Value) (eg : ∀ args w, (callFunc g args).run Tryz.prog w = .ok (.enter g args) w) {R : World → Prop} {E : Nat → Nat → Value → World → Prop} {N : Nat} (hN : N ≤ 1000000)
    (iter : ∀ m, 1 ≤ m → IterOwn Fence.wide m Tryz.prog g lb R (fun A t args W => ∃ v, args = #[v] ∧ E A t v W) N) (hE : Elem E) (hE1 : ∀ A t v W, E A t v W → ∃ p n c, v = .slice p n c) (hR : ∀ W, Below w.heap.size w W → R W) :
    Calls Tryz.prog 102 #[.slice none 0 0, .func (.func g) #[] lb] w fun e w' => ∃ v A xs, e = .returned v ∧ w.heap.size ≤ A ∧ w'.ownsRow (A + 1) 35 1 v N ((List.range N).map xs) ∧ (∀ t, t < N → E A t (xs t) w') ∧ Below w.heap.size w w' := by
  refine (callsIn_wide (n := 3)).1 ?_
  refine callsIn_of_wp_marks Tryz.func102 rfl trivial ?_ rfl
  simp only [Tryz.ntmps102, List.size_toArray, List.length_cons, List.length_nil, Nat.reduceAdd, Nat.reduceSub, Array.replicate_succ, Array.replicate_zero, List.push_toArray, List.append_toArray, List.nil_append, List.cons_append]
  have HE := Lib.hid hE
  have HE1 := Lib.hid hE1
  have HR := Lib.hid hR
  have HI := Lib.hid iter
  clear hE hE1 hR iter
  obtain ⟨i0, hi, hz0, hz1, hz2⟩ := info_parts info_ints
  gi_wp2
  have hbx := Boxed.new w 48 (.slice none 0 0)
  have hbl : Below w.heap.size w (w.alloc (.cells #[.slice none 0 0] 48)) := (Below.refl _ _).alloc (Nat.le_refl _) _
  have hsz : (w.alloc (.cells #[.slice none 0 0] 48)).heap.size = w.heap.size + 1 := by simp
  generalize w.alloc (.cells #[.slice none 0 0] 48) = w1 at *
  refine wpIn_range_own (gf := g) (lb := lb) rfl (by omega) rfl trivial eg (HI.out _ (by omega))
    (fun A k args W h => by obtain ⟨v, rfl, _⟩ := h; rfl)
    (fun W => Boxed W w.heap.size 48 (.slice none 0 0) ∧ Below w.heap.size w W)
    (fun A k W => ColAt w E A k W)
    (fun _ _ _ => False)
    ?i0 (fun A k hA => col_steps HE.out (by omega) (by omega)) (fun A c hA W W' row h => h.elim)
    ?hy (fun W h => HR.out W h.2) (fun A k W h => HR.out W h.below) ⟨hbx, hbl⟩ ?start
    (fun args => { tmps := #[.slice none 0 0, .func (.func g) #[] lb, .pointer (some ⟨w.heap.size, 0, none⟩), undef, .slice none 0 0, args.getD 0 undef, .func (.func g) #[] lb, args.getD 0 undef, undef, undef, undef, undef, undef], defers := [] }) ?assign ?body ?done ?stop
  case i0 =>
    rintro _ W W' row ⟨h1, h2⟩ hg hr
    exact ⟨h1.kept hg (fun e => by obtain ⟨_, o, ho, hc⟩ := hr _ e.symm; rw [show W.heap[w.heap.size]? = _ from h1] at ho; cases ho; cases hc), h2.grown hg h2.size (fun r e => by have := (hr r e).1; omega)⟩
  case hy =>
    rintro ⟨A, k, args⟩ W W' row ⟨v, hv, h⟩ hg hr
    exact ⟨v, hv, HE.out _ _ _ _ _ _ h hg fun r e => by obtain ⟨_, o, ho, hc⟩ := hr r e; exact .inr ⟨o, ho, fun cs h => by subst h; cases hc⟩⟩
  case start =>
    intro A W h hA hAl
    exact ⟨⟨.slice none 0 0, fun _ => undef, h.1, ⟨rfl, .inl ⟨rfl, rfl⟩⟩, fun t ht => absurd ht (by omega)⟩, h.2, by omega⟩
  case assign =>
    rintro l A k args W K ⟨v, rfl, h⟩ hK
    gi_wp2
    exact hK
  case body =>
    rintro l A k args W hk hA hAl ⟨⟨sv, xs, h1, h2, h3⟩, h4, h5⟩ ⟨v, rfl, hv⟩
    obtain ⟨vp, vn, vc, rfl⟩ := HE1.out _ _ _ _ hv
    have hc := h1.cell
    have hf := h1.frozen
    have hte : 48 ≠ 35 := by decide
    have H2 := Lib.hid h2
    have H3 := Lib.hid h3
    have HV := Lib.hid hv
    have H1 := Lib.hid h1
    clear h3 h2 h1
    gi_wp2_with (gi_at_builtin; refine wpListIn_append_own _ rfl _ _ 48 rfl (A + 1) 35 i0 (.slice none 0 0) 1 24 Tryz.underlying48 hi hz0 hz1 hz2 rfl (by decide) _ _ _ rfl (H2.out.alloc _) ⟨W.heap.size, 0, none⟩ 1 1 [.slice vp vn vc] rfl rfl (cell_one_new _ _ _) (by intro u hu; simp at hu; subst hu; rfl) (by unfold maxLen; omega) (by omega) (by simp; omega) ?_; intro v' w3 hown hg3 hnil; obtain ⟨p9, n9, c9, rfl⟩ := own_shape hown; have hap := Lib.hid (Boxed.appended H1.out hte (own_base H2.out (by omega)) h4.size (Nat.le_refl _) (own_base hown (by omega)) hg3); have hc3 := hap.out.1.cell; have hf3 := hap.out.1.frozen)
    have hg3' : (W.alloc (.cells #[.slice vp vn vc] 35)).grownBy w3 sv.ownBlock := hg3
    clear hg3 hnil
    have ga : W.grownBy (W.alloc (.cells #[.slice vp vn vc] 35)) none := World.grownBy_alloc _ _ _
    have gs := grownBy_setCell' w3 w.heap.size (.slice p9 n9 c9)
    obtain ⟨q1, q2, q3, q4, q5⟩ := hap.out
    have nint : ∀ r, sv.ownBlock = some r → r = A ∨ ∃ o : Obj, (W.alloc (.cells #[.slice vp vn vc] 35)).heap[r]? = some o ∧ ∀ cs, o ≠ .cells cs 3 (0, 0) := fun r e => by
      obtain ⟨_, cs, h⟩ := own_lt (H2.out.alloc (.cells #[.slice vp vn vc] 35)) r e
      exact .inr ⟨_, h, fun cs' h' => by injection h' with h1 h2; revert h2; decide⟩
    have nbox : ∀ r, some w.heap.size = some r → r = A ∨ ∃ o : Obj, w3.heap[r]? = some o ∧ ∀ cs, o ≠ .cells cs 3 (0, 0) := fun r e => by
      cases e
      exact .inr ⟨_, q1, fun cs' h' => by injection h' with h1 h2; revert h2; decide⟩
    have grow : ∀ t v, E A t v W → E A t v (w3.setCell ⟨w.heap.size, 0, none⟩ (.slice p9 n9 c9)) := fun t v h =>
      HE.out _ _ _ _ _ _ (HE.out _ _ _ _ _ _ (HE.out _ _ _ _ _ _ h ga (fun r e => by cases e)) hg3' nint) gs nbox
    refine ⟨q4, ?_, ⟨⟨.slice p9 n9 c9, fun t => if t = k then .slice vp vn vc else xs t, q2, ?_, fun t ht => ?_⟩, h4.trans q5, h5⟩⟩
    · refine (gs.block A (by have := hg3'.size; simp at this; omega) (by simp; omega)).trans ((hg3'.block A (by simp; omega) fun e => ?_).trans (Below.heap_alloc _ _ _ hAl))
      have := (own_lt H2.out A e.symm).1
      omega
    · have hl : (List.range (k + 1)).map (fun t => if t = k then Value.slice vp vn vc else xs t) = (List.range k).map xs ++ [.slice vp vn vc] := by
        rw [List.range_succ, List.map_append]
        congr 1
        · exact List.map_congr_left fun t ht => if_neg (by have := List.mem_range.1 ht; omega)
        · simp
      rw [hl]
      exact hown.kept gs (own_ne hown fun r e => by cases e; exact .inl (by omega))
    · show E A t (if t = k then _ else _) _
      by_cases e : t = k
      · rw [if_pos e, e]; exact grow k _ HV.out
      · rw [if_neg e]; exact grow t _ (H3.out t (by omega))
  case done =>
    rintro D A W hD ⟨⟨sv, xs, h1, h2, h3⟩, h4, h5⟩ hK
    have hc := h1.cell
    have H2 := Lib.hid h2
    have H3 := Lib.hid h3
    clear h1 h2 h3
    gi_wp2
    refine ⟨by simp, .inl ⟨_, _, rfl, run_takeDeferred hK, ?_⟩⟩
    have hk : ∀ r, some D = some r → r = A ∨ ∃ o : Obj, W.heap[r]? = some o ∧ ∀ cs, o ≠ .cells cs 3 (0, 0) := fun r e => by cases e; exact .inr ⟨_, hK, fun cs h => by cases h⟩
    refine ⟨sv, by simp [results, Tryz.results102, go_sem], sv, A, xs, rfl, by omega, H2.out.kept (grownBy_putObj' _ D (.deferred none)) (own_ne H2.out fun r e => by cases e; exact .inr ⟨_, hK, rfl⟩), fun t ht => HE.out _ _ _ _ _ _ (H3.out t ht) (grownBy_putObj' _ D (.deferred none)) hk, h4.trans (belowK_b (w := w) (Nat.le_refl _) W D _ _ (by omega) hK rfl rfl)⟩
  case stop => exact fun D A c W hD h => h.elim
theorem c_Collect (w : World) (g : Nat) (lb : Array Value) (eg : ∀ args w, (callFunc g args).run Tryz.prog w = .ok (.enter g args) w) {R : World → Prop} {E : Nat → Nat → Value → World → Prop} {N : Nat} (hN : N ≤ 1000000)
    (iter : ∀ m, 1 ≤ m → IterOwn Fence.wide m Tryz.prog g lb R (fun A t args W => ∃ v, args = #[v] ∧ E A t v W) N) (hE : Elem E) (hE1 : ∀ A t v W, E A t v W → ∃ p n c, v = .slice p n c) (hR : ∀ W, Below w.heap.size w W → R W) :
    Calls Tryz.prog 60 #[.func (.func g) #[] lb] w fun e w' => ∃ v A xs, e = .returned v ∧ w.heap.size ≤ A ∧ w'.ownsRow (A + 1) 35 1 v N ((List.range N).map xs) ∧ (∀ t, t < N → E A t (xs t) w') ∧ Below w.heap.size w w' := by
  have HC := Lib.hid (c_appendSeq w g lb eg hN iter hE hE1 hR)
  clear hE hE1 iter
  go_enter Tryz.func60, Tryz.ntmps60
  go_wp2_with (first
    | (go_at_call 102; refine HC.out.mono ?_; rintro e w1 ⟨v, A, xs, rfl, h1, h2, h3, h4⟩))
  go_ret
  exact ⟨v, A, xs, rfl, h1, h2, h3, h4⟩
theorem c_coordinates (w : World) (L H : Value) : Calls Tryz.prog 48 #[.agg #[L, H]] w fun e w' => e = .returned (.func (.func 91) #[] #[.pointer (some ⟨w.heap.size, 0, none⟩)]) ∧ w' = w.alloc (.cells #[L, H] 45) := by
  go_enter Tryz.func48, Tryz.ntmps48
  go_wp2
  go_ret
  exact ⟨rfl, rfl⟩
/-- The coordinates of a box, collected. -/
theorem c_coords (w : World) (bl ol cl bh oh ch n : Nat) (lo hi : Nat → Int) (e : Nat → Nat) (h1 : 1 ≤ n) (hn : n ≤ 1000000) (he : ∀ k, k < n → 1 ≤ e k ∧ hi k = lo k + e k - 1 ∧ -9223372036854775808 ≤ lo k ∧ hi k ≤ 4611686018427387904) (hv : volC e n 0 ≤ 1000000)
    (hl : bl < w.heap.size) (hh : bh < w.heap.size) (hc : ∀ k, k < n → w.cell? ⟨bl, ol + k, none⟩ = some (.int .i64 (lo k)) ∧ w.cell? ⟨bh, oh + k, none⟩ = some (.int .i64 (hi k))) :
    Calls Tryz.prog 60 #[.func (.func 91) #[] #[.pointer (some ⟨w.heap.size, 0, none⟩)]] (w.alloc (.cells #[.slice (some ⟨bl, ol, none⟩) n cl, .slice (some ⟨bh, oh, none⟩) n ch] 45)) fun e' w' => ∃ v A xs, e' = .returned v ∧ w.heap.size ≤ A ∧ w'.ownsRow (A + 1) 35 1 v (volC e n 0) ((List.range (volC e n 0)).map xs) ∧ (∀ t, t < volC e n 0 → CrdAt n lo e A t (xs t) w') ∧ Below w.heap.size w w' := by
  have hb : Below w.heap.size w (w.alloc (.cells #[.slice (some ⟨bl, ol, none⟩) n cl, .slice (some ⟨bh, oh, none⟩) n ch] 45)) := (Below.refl _ _).alloc (Nat.le_refl _) _
  have hnw := heap_alloc_new w (.cells #[.slice (some ⟨bl, ol, none⟩) n cl, .slice (some ⟨bh, oh, none⟩) n ch] 45)
  refine (c_Collect _ _ _ (enters_of Tryz.func91 (by kernel_rfl) rfl) (E := CrdAt n lo e) hv (fun m hm => crd_iter m hm w.heap.size bl ol cl bh oh ch n lo hi e h1 hn he) (crd_elem n lo e) (fun A t v W h => by obtain ⟨b, c, g, h, _⟩ := h; exact ⟨_, _, _, h⟩) (fun W hW => ?_)).mono ?_
  · have h2 := (hW.block w.heap.size (by simp)).trans hnw
    refine ⟨by rw [cell_of_row _ _ _ _ _ _ h2]; rfl, by rw [cell_of_row _ _ _ _ _ _ h2]; rfl, fun k hk => ?_⟩
    have hbW : Below w.heap.size w W := st hb hW
    exact ⟨(hbW.cell (p := ⟨bl, ol + k, none⟩) hl).trans (hc k hk).1, (hbW.cell (p := ⟨bh, oh + k, none⟩) hh).trans (hc k hk).2⟩
  · rintro e' w' ⟨v, A, xs, rfl, a1, a2, a3, a4⟩
    exact ⟨v, A, xs, rfl, by simp at a1; omega, a2, a3, st hb a4⟩
end Go.Proofs.YtogmbehomilalaaGreatDoor
end

/- A strings.Builder, written to: what else stays as it is. -/
section
namespace Go.Proofs.YtogmbehomilalaaGreatDoor
open Go Go.RowKit Go.Deep

/-- What is no row of bytes and no builder stays. -/
def KeepB (w w' : World) : Prop := ∀ (j : Nat) (o : Obj), w.heap[j]? = some o → (∀ cs fz, o ≠ .cells cs 5 fz) → (∀ cs fz, o ≠ .cells cs 113 fz) → w'.heap[j]? = some o
theorem KeepB.refl (w : World) : KeepB w w := fun _ _ h _ _ => h
theorem KeepB.trans {a b c : World} (h : KeepB a b) (k : KeepB b c) : KeepB a c := fun j o h1 h2 h3 => k j o (h j o h1 h2 h3) h2 h3
theorem KeepB.below {a b : World} (h : Below a.heap.size a b) : KeepB a b := fun j _ h1 _ _ => (h.block j (Array.getElem?_eq_some_iff.1 h1).1).trans h1
theorem KeepB.grown {a b : World} {row : Option Nat} (h : a.grownBy b row) (hr : ∀ r, row = some r → ∃ cs fz, a.heap[r]? = some (.cells cs 5 fz)) : KeepB a b := fun j o h1 h2 _ => by
  refine (h.block j (Array.getElem?_eq_some_iff.1 h1).1 fun e => ?_).trans h1
  obtain ⟨cs, fz, h4⟩ := hr j e.symm
  rw [h4] at h1
  exact h2 cs fz (Option.some.inj h1).symm
theorem KeepB.set {a : World} {b i : Nat} {cs : Array Value} {fz : Nat × Nat} (h : a.heap[b]? = some (.cells cs 113 fz)) (v : Value) : KeepB a (a.setCell ⟨b, i, none⟩ v) := fun j o h1 _ h3 => by
  by_cases e : j = b
  · subst e
    rw [h] at h1
    exact absurd (Option.some.inj h1).symm (h3 cs fz)
  · exact (blk_setCell_other _ _ _ _ (by exact e)).trans h1
theorem KeepB.cell {a b : World} (h : KeepB a b) {j i : Nat} {cs : Array Value} {t : TypeId} {fz : Nat × Nat} (hj : a.heap[j]? = some (.cells cs t fz)) (h1 : t ≠ 5) (h2 : t ≠ 113) : b.cell? ⟨j, i, none⟩ = cs[i]? := by
  have h3 := h j _ hj (fun cs' fz' e => by injection e with _ e; exact h1 e) (fun cs' fz' e => by injection e with _ e; exact h2 e)
  exact Lib.cell_of_heap h3 i
theorem bld_below {B b : Nat} {bs : List Value} {w w' : World} (h : Lib.IsBuilder 113 5 B b bs w) (hb : Below w.heap.size w w') : Lib.IsBuilder 113 5 B b bs w' := by
  have key : ∀ p, Lib.BuilderAt 113 5 B b p bs w → Lib.BuilderAt 113 5 B b p bs w' := fun p hp => by
    have hlt := hp.lt
    obtain ⟨hB, v, hv, hown, hne⟩ := hp
    exact ⟨hB, v, (hb.block b hlt).trans hv, hown.kept (grown_below hb) (own_ne hown fun r e => by cases e), hne⟩
  exact h.imp (key _) (key _)

theorem b_copyCheckK (B b : Nat) (bs : List Value) (w : World) (h : Lib.IsBuilder 113 5 B b bs w) :
    Calls Tryz.prog 103 #[.pointer (some ⟨b, 0, none⟩)] w fun e w' => e = .returned (.tuple #[]) ∧ (Lib.BuilderAt 113 5 B b (.pointer (some ⟨b, 0, none⟩)) bs w' ∧ Below B w w' ∧ KeepB w w') := by
  rcases h with h | h
  · refine (b_copyCheck_fresh w b h.cell0 h.shape h.frozen0).mono ?_
    rintro e w' ⟨rfl, rfl⟩
    have h' := h
    obtain ⟨_, v, hv, _⟩ := h'
    exact ⟨rfl, h.used _, (Below.refl B w).setCell (p := ⟨b, 0, none⟩) h.1 _, KeepB.set hv _⟩
  · refine (b_copyCheck_used w b h.cell0).mono ?_
    rintro e w' ⟨rfl, rfl⟩
    exact ⟨rfl, h, Below.refl B _, KeepB.refl _⟩

set_option maxHeartbeats 2000000 in
set_option maxRecDepth 100000 in
theorem b_WriteStringK (B b : Nat) (bs : List Value) (s : ByteArray) (w : World) (h : Lib.IsBuilder 113 5 B b bs w) (hlen : bs.length + s.size ≤ 140737488355328) (hBw : B ≤ w.heap.size) :
    Calls Tryz.prog 63 #[.pointer (some ⟨b, 0, none⟩), .string s] w fun e w' => e = .returned (.tuple #[.int .i64 s.size, .nilIface]) ∧ (Lib.BuilderAt 113 5 B b (.pointer (some ⟨b, 0, none⟩)) (bs ++ Lib.strCells s) w' ∧ Below B w w' ∧ KeepB w w') := by
  obtain ⟨i0, hi, hz0, hz1, hz2⟩ := info_parts info_u8
  have HCC := Lib.hid (b_copyCheckK B b bs w h)
  go_enter Tryz.func63, Tryz.ntmps63
  go_wp2_with (go_at_call 103; refine HCC.out.mono ?_)
  rintro e w1 ⟨rfl, h1, hb1, hk1⟩
  have HK1 := Lib.hid hk1
  obtain ⟨hB, v, hbk, hown, hne⟩ := h1
  have c0 : w1.cell? ⟨b, 0, none⟩ = some (.pointer (some ⟨b, 0, none⟩)) := by rw [Lib.cell_of_heap hbk]; rfl
  have c1 : w1.cell? ⟨b, 1, none⟩ = some v := by rw [Lib.cell_of_heap hbk]; rfl
  clear hk1
  go_wp2_with (at_builtin; refine Lib.wpList_append_own_string _ rfl _ _ 111 9 rfl B 5 i0 Tryz.underlying111 Tryz.underlying9 hi hz0 hz1 hz2 _ _ _ rfl hown s rfl ?c3 ?c4 ?c5 ?_)
  case c3 => unfold maxLen; omega
  case c4 => omega
  case c5 => have := hb1.size; omega
  intro v' w2 hown' hgrow _
  have hlt : b < w1.heap.size := by
    rcases Nat.lt_or_ge b w1.heap.size with h' | h'
    · exact h'
    · simp [Array.getElem?_eq_none h'] at hbk
  have hb2 : w2.heap[b]? = some (.cells #[.pointer (some ⟨b, 0, none⟩), v] 113 (0, 0)) := by
    rw [hgrow.block b hlt (fun e => hne e.symm)]
    exact hbk
  have d0 : w2.cell? ⟨b, 0, none⟩ = some (.pointer (some ⟨b, 0, none⟩)) := by rw [Lib.cell_of_heap hb2]; rfl
  have d1 : w2.cell? ⟨b, 1, none⟩ = some v := by rw [Lib.cell_of_heap hb2]; rfl
  have f1 : w2.frozen? ⟨b, 1, none⟩ = false := Lib.frozen_of_heap hb2 1
  obtain ⟨ao, n', cap, rfl⟩ : ∃ ao n' cap, v' = .slice ao n' cap := by
    rcases hown'.2 with ⟨hv, _⟩ | ⟨g, cap, cur, hv, _⟩
    · exact ⟨_, _, _, hv⟩
    · exact ⟨_, _, _, hv⟩
  go_wp2
  go_ret2
  refine ⟨rfl, ?_, ?_, ?_⟩
  · exact Lib.BuilderAt.put (T := 113) (e := 5) hB hb2 (bs' := bs ++ Lib.strCells s) (by simpa [Lib.strCells_length] using hown') (by decide)
  · exact (hb1.grown hgrow (by have := hb1.size; omega) (fun k hk => (hown.lt k hk).1)).setCell (p := ⟨b, 1, none⟩) hB _
  · exact (HK1.out.trans (KeepB.grown hgrow fun r e => by obtain ⟨_, cs, h⟩ := own_lt hown r e; exact ⟨cs, _, h⟩)).trans (KeepB.set hb2 _)

set_option maxHeartbeats 2000000 in
set_option maxRecDepth 100000 in
theorem b_WriteByteK (B b : Nat) (bs : List Value) (c : Int) (w : World) (h : Lib.IsBuilder 113 5 B b bs w) (hlen : bs.length ≤ 140737488355327) (hBw : B ≤ w.heap.size) :
    Calls Tryz.prog 105 #[.pointer (some ⟨b, 0, none⟩), .int .u8 c] w fun e w' => e = .returned .nilIface ∧ (Lib.BuilderAt 113 5 B b (.pointer (some ⟨b, 0, none⟩)) (bs ++ [.int .u8 c]) w' ∧ Below B w w' ∧ KeepB w w') := by
  obtain ⟨i0, hi, hz0, hz1, hz2⟩ := info_parts info_u8
  have HCC := Lib.hid (b_copyCheckK B b bs w h)
  go_enter Tryz.func105, Tryz.ntmps105
  go_wp2_with (go_at_call 103; refine HCC.out.mono ?_)
  rintro e w1 ⟨rfl, h1, hb1, hk1⟩
  have HK1 := Lib.hid hk1
  obtain ⟨hB, v, hbk, hown, hne⟩ := h1
  have c0 : w1.cell? ⟨b, 0, none⟩ = some (.pointer (some ⟨b, 0, none⟩)) := by rw [Lib.cell_of_heap hbk]; rfl
  have c1 : w1.cell? ⟨b, 1, none⟩ = some v := by rw [Lib.cell_of_heap hbk]; rfl
  clear hk1
  have H2 := Lib.hid hown
  go_wp2_with (at_builtin; refine wpList_append_own _ rfl _ _ 111 rfl B 5 i0 _ 1 1 Tryz.underlying111 hi hz0 hz1 hz2 rfl (by decide) _ _ _ rfl (H2.out.alloc _) ⟨w1.heap.size, 0, none⟩ 1 1 [.int .u8 c] rfl rfl (cell_one_new _ _ _) (by intro u hu; simp at hu; subst hu; rfl) (by unfold maxLen; omega) (by omega) (by simp; have := hb1.size; omega) ?_)
  intro v' w2 hown' hgrow _
  have hlt0 : b < w1.heap.size := by
    rcases Nat.lt_or_ge b w1.heap.size with h' | h'
    · exact h'
    · simp [Array.getElem?_eq_none h'] at hbk
  have hbk1 : (w1.alloc (.cells #[.int .u8 c] 5)).heap[b]? = some (.cells #[.pointer (some ⟨b, 0, none⟩), v] 113 (0, 0)) := (Below.heap_alloc _ _ _ hlt0).trans hbk
  have hb2 : w2.heap[b]? = some (.cells #[.pointer (some ⟨b, 0, none⟩), v] 113 (0, 0)) := by
    rw [hgrow.block b (by simp; omega) (fun e => hne e.symm)]
    exact hbk1
  have d0 : w2.cell? ⟨b, 0, none⟩ = some (.pointer (some ⟨b, 0, none⟩)) := by rw [Lib.cell_of_heap hb2]; rfl
  have d1 : w2.cell? ⟨b, 1, none⟩ = some v := by rw [Lib.cell_of_heap hb2]; rfl
  have f1 : w2.frozen? ⟨b, 1, none⟩ = false := Lib.frozen_of_heap hb2 1
  obtain ⟨ao, n', cap, rfl⟩ : ∃ ao n' cap, v' = .slice ao n' cap := by
    rcases hown'.2 with ⟨hv, _⟩ | ⟨g, cap, cur, hv, _⟩
    · exact ⟨_, _, _, hv⟩
    · exact ⟨_, _, _, hv⟩
  have hba : Below w1.heap.size w1 (w1.alloc (.cells #[.int .u8 c] 5)) := (Below.refl _ _).alloc (Nat.le_refl _) _
  go_wp2
  go_ret
  refine ⟨rfl, ?_, ?_, ?_⟩
  · exact Lib.BuilderAt.put (T := 113) (e := 5) hB hb2 (bs' := bs ++ [.int .u8 c]) (by simpa using hown') (by decide)
  · exact ((hb1.trans (hba.mono (by have := hb1.size; omega))).grown hgrow (by have := hb1.size; simp; omega) (fun k hk => (hown.lt k hk).1)).setCell (p := ⟨b, 1, none⟩) hB _
  · exact ((HK1.out.trans (KeepB.below hba)).trans (KeepB.grown hgrow fun r e => by obtain ⟨_, cs, h⟩ := own_lt (hown.alloc (.cells #[.int .u8 c] 5)) r e; exact ⟨cs, _, h⟩)).trans (KeepB.set hb2 _)
end Go.Proofs.YtogmbehomilalaaGreatDoor
end
