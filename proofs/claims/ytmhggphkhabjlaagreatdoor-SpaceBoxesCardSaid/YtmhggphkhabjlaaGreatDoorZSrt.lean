/- Coordinates in the order of their keys. -/
import Derived.Test.YtmhggphkhabjlaaGreatDoorZRegW
import Derived.Test.YtmhggphkhabjlaaGreatDoorZSrK
namespace Go.Proofs.YtmhggphkhabjlaaGreatDoor
open Go Go.RowKit Go.Deep Go.Shelf Go.Sort
attribute [local go_sem] Oper.semAt_some

theorem info_keyed : (Tryz.prog.info? 127).map (fun i => (i.zero, i.size, i.bytes)) = some (some (.agg #[.int .i64 0, .slice none 0 0]), 2, 32) := by kernel_rfl
/-- The pairs' cells. -/
def pairC (ky : Nat → Int) (xs : Nat → Value) (k : Nat) : List Value := (List.range k).flatMap fun t => [.int .i64 (ky t), xs t]
theorem pairC_succ (ky : Nat → Int) (xs : Nat → Value) (k : Nat) : pairC ky xs (k + 1) = pairC ky xs k ++ [.int .i64 (ky k), xs k] := by
  unfold pairC
  rw [List.range_succ, List.flatMap_append]
  simp
theorem pairC_congr {ky : Nat → Int} {xs ys : Nat → Value} {k : Nat} (h : ∀ t, t < k → xs t = ys t) : pairC ky xs k = pairC ky ys k := by
  induction k with
  | zero => rfl
  | succ k ih => rw [pairC_succ, pairC_succ, ih (fun t ht => h t (by omega)), h k (by omega)]
abbrev keyF (g : Nat) (fr : Value) : Value := .func (.func g) #[fr] #[]
abbrev cmpF : Value := .func (.func 76) #[] #[]
/-- What is kept between the rounds. -/
structure SrtAt (w : World) (E : Nat → Nat → Value → World → Prop) (ky : Nat → Int) (g : Nat) (fr : Value) (A k : Nat) (W : World) : Prop where
  box : ∃ v xs, Boxed W (w.heap.size + 1 + 1) 125 v ∧ W.ownsRow (A + 1) 127 2 v k (pairC ky xs k) ∧ ∀ t, t < k → E A t (xs t) W
  key : Boxed W w.heap.size 97 (keyF g fr)
  cmp : Boxed W (w.heap.size + 1) 99 cmpF
  below : Below w.heap.size w W
  ge : w.heap.size + 1 + 1 < A
theorem boxed_ne {W : World} {B : Nat} {t : TypeId} {v : Value} (h : Boxed W B t v) {A C : Nat} {row : Option Nat} (hA : B < A) (hr : ∀ r, row = some r → r = A ∨ (C ≤ r ∧ ∃ o : Obj, W.heap[r]? = some o ∧ o.isCells = false)) : some B ≠ row := fun e => by
  rcases hr B e.symm with h1 | ⟨_, o, ho, hc⟩
  · omega
  · rw [show W.heap[B]? = _ from h] at ho; cases ho; cases hc
theorem srt_steps {w : World} {E : Nat → Nat → Value → World → Prop} {ky : Nat → Int} {g : Nat} {fr : Value} (hE : Elem E) {B A k : Nat} (hB : w.heap.size ≤ B) (hA : w.heap.size + 1 + 1 < A) : StepsC B A (SrtAt w E ky g fr A k) := by
  intro W W' row ⟨⟨v, xs, h1, h2, h3⟩, h4, h5, h6, h7⟩ hg hr
  refine ⟨⟨v, xs, h1.kept hg (boxed_ne h1 hA hr), h2.kept hg (own_ne h2 fun r e => (hr r e).imp (fun h => by omega) (fun h => h.2)), fun t ht => hE _ _ _ _ _ _ (h3 t ht) hg fun r e => (hr r e).imp id fun ⟨_, o, ho, hc⟩ => ⟨o, ho, fun cs h => by subst h; cases hc⟩⟩, h4.kept hg (boxed_ne h4 (by omega) hr), h5.kept hg (boxed_ne h5 (by omega) hr), h6.grown hg h6.size (fun r e => ?_), h7⟩
  rcases hr r e with h | ⟨h, _⟩ <;> omega
theorem keeps_below {W W' : World} (h : Below W.heap.size W W') : KeepsOthers W W' :=
  ⟨h.size, fun k _ hk _ => (h.block k (Array.getElem?_eq_some_iff.1 hk).1).trans hk⟩
theorem dag_of {ops : Array Oper} (h : (List.range ops.size).all (fun i => ((ops[i]?).map fun o => o.after.all fun e => decide (e.on < i)).getD true) = true) : ∀ (i : Nat) (o : Oper), ops[i]? = some o → ∀ e : Edge, e ∈ o.after → e.on < i := by
  intro i o ho e he
  have h1 := List.all_eq_true.1 h i (List.mem_range.2 (Array.getElem?_eq_some_iff.1 ho).1)
  rw [ho] at h1
  simp only [Option.map_some, Option.getD_some, Array.all_eq_true_iff_forall_mem] at h1
  simpa using h1 e he

theorem pairC_len (ky : Nat → Int) (xs : Nat → Value) (N : Nat) : (pairC ky xs N).length = N * 2 := by
  induction N with
  | zero => rfl
  | succ n ih => rw [pairC_succ, List.length_append, ih]; simp; omega
theorem pairC_get (ky : Nat → Int) (xs : Nat → Value) (N j : Nat) (hj : j < N) : (pairC ky xs N)[j * 2]? = some (.int .i64 (ky j)) ∧ (pairC ky xs N)[j * 2 + 1]? = some (xs j) := by
  induction N with
  | zero => omega
  | succ n ih =>
    rw [pairC_succ]
    by_cases e : j = n
    · subst e
      rw [List.getElem?_append_right (by rw [pairC_len]; omega), List.getElem?_append_right (by rw [pairC_len]; omega), pairC_len]
      constructor
      · rw [show j * 2 - j * 2 = 0 by omega]; rfl
      · rw [show j * 2 + 1 - j * 2 = 1 by omega]; rfl
    · rw [List.getElem?_append_left (by rw [pairC_len]; omega), List.getElem?_append_left (by rw [pairC_len]; omega)]
      exact ih (by omega)
/-- The pairs' cells, by themselves. -/
theorem own_cells {W : World} {base e : Nat} {v : Value} {ky : Nat → Int} {xs : Nat → Value} {N : Nat} (h : W.ownsRow base e 2 v N (pairC ky xs N)) (hN : 1 ≤ N) :
    ∃ b cap cur, v = .slice (some ⟨b, 0, none⟩) N cap ∧ base ≤ b ∧ W.heap[b]? = some (.cells cur e (0, 0)) ∧ ∀ j, j < N → W.cell? ⟨b, j * 2, none⟩ = some (.int .i64 (ky j)) ∧ W.cell? ⟨b, j * 2 + 1, none⟩ = some (xs j) := by
  rcases h.2 with ⟨_, h0⟩ | ⟨g, cap, cur, h1, h2, h3, h4, h5, h6, h7⟩
  · omega
  · refine ⟨g, cap, cur, h1, h2, h3, fun j hj => ?_⟩
    obtain ⟨a1, a2⟩ := pairC_get ky xs N j hj
    have get : ∀ i, i < N * 2 → cur[i]? = (pairC ky xs N)[i]? := fun i hi => by
      rw [← h7, List.getElem?_take, if_pos hi, Array.getElem?_toList]
    rw [cell_of_row _ _ _ _ _ _ h3, cell_of_row _ _ _ _ _ _ h3, get _ (by omega), get _ (by omega)]
    exact ⟨a1, a2⟩

theorem pairR_of (ky : Nat → Int) (N j : Nat) (hj : j < N) : ∃ i, i < N ∧ (pairR ky N)[j]! = (ky i, i) := by
  have hds : (pairD ky N).size = N := by simp [pairD]
  have hp := (pdq_sorts (ltOf fun x y : Int × Nat => Lib.compareInt x.1 y.1) swo_key (pairD ky N) 0 N (Lib.bitLen N) true true (Nat.zero_le _) (by rw [hds]; exact Nat.le_refl _) (Or.inl rfl)).1
  exact permIn_all _ _ 0 N (fun q : Int × Nat => ∃ i, i < N ∧ q = (ky i, i)) (by rw [hds]; exact Nat.le_refl _) hp (fun i _ hi => ⟨i, hi, by simp [pairD, hi]⟩) j (Nat.zero_le _) hj
theorem pairR_lt (ky : Nat → Int) (N j : Nat) (hj : j < N) : ((pairR ky N)[j]!).2 < N := by
  obtain ⟨i, hi, e⟩ := pairR_of ky N j hj
  rw [e]; exact hi

set_option maxRecDepth 100000 in
set_option maxHeartbeats 4000000 in
theorem c_sorted (w : World) (g : Nat) (lb : Array Value) (eg : ∀ args w, (callFunc g args).run Tryz.prog w = .ok (.enter g args) w) {R : World → Prop} {E : Nat → Nat → Value → World → Prop} {N : Nat} (hN : N ≤ 1000000) (hN1 : 1 ≤ N)
    (iter : ∀ m, 1 ≤ m → IterOwn Fence.wide m Tryz.prog g lb R (fun A t args W => ∃ v, args = #[v] ∧ E A t v W) N) (hE : Elem E) (hE1 : ∀ A t v W, E A t v W → ∃ p n c, v = .slice p n c) (hR : ∀ W, Below w.heap.size w W → R W)
    (kg : Nat) (fr : Value) (ek : ∀ args w, (callFunc kg args).run Tryz.prog w = .ok (.enter kg args) w) (ky : Nat → Int)
    (hK : ∀ A t v W, t < N → E A t v W → Below w.heap.size w W → Calls Tryz.prog kg #[fr, v] W fun e w' => e = .returned (.int .i64 (ky t)) ∧ Below W.heap.size W w') :
    Calls Tryz.prog 74 #[.func (.func g) #[] lb, keyF kg fr, cmpF] w fun e w' => ∃ (b A : Nat) (xs : Nat → Value), e = .returned (.slice (some ⟨b, 0, none⟩) N N) ∧ w.heap.size ≤ b ∧ w'.rowIs b 32 N (fun j => xs ((pairR ky N)[j]!).2) ∧ (∀ t, t < N → E A t (xs t) w') ∧ Below w.heap.size w w' := by
  refine (callsIn_wide (n := 3)).1 ?_
  refine callsIn_of_wp_marks Tryz.func74 rfl trivial ?_ rfl
  simp only [Tryz.ntmps74, List.size_toArray, List.length_cons, List.length_nil, Nat.reduceAdd, Nat.reduceSub, Array.replicate_succ, Array.replicate_zero, List.push_toArray, List.append_toArray, List.nil_append, List.cons_append]
  have HE := Lib.hid hE
  have HE1 := Lib.hid hE1
  have HR := Lib.hid hR
  have HI := Lib.hid iter
  have HK := Lib.hid hK
  clear hE hE1 hR iter hK
  obtain ⟨i0, hi, hz0, hz1, hz2⟩ := info_parts info_keyed
  have hmk := fun W => run_make_row' (P := Tryz.prog) 53 32 (.slice none 0 0) 24 Tryz.underlying53 info_ints rfl .i64 .i64 N (by omega) (by omega) W
  gi_wp2
  have b0 := Boxed.new w 97 (keyF kg fr)
  have b1 := Boxed.new (w.alloc (.cells #[keyF kg fr] 97)) 99 cmpF
  have b2 := Boxed.new ((w.alloc (.cells #[keyF kg fr] 97)).alloc (.cells #[cmpF] 99)) 125 (.slice none 0 0)
  have c0 := (b0.alloc (.cells #[cmpF] 99)).alloc (.cells #[.slice none 0 0] 125)
  have c1 := b1.alloc (.cells #[.slice none 0 0] 125)
  have hbl : Below w.heap.size w (((w.alloc (.cells #[keyF kg fr] 97)).alloc (.cells #[cmpF] 99)).alloc (.cells #[.slice none 0 0] 125)) := (((Below.refl _ _).alloc (Nat.le_refl _) _).alloc (by simp) _).alloc (by simp; omega) _
  have hsz : (((w.alloc (.cells #[keyF kg fr] 97)).alloc (.cells #[cmpF] 99)).alloc (.cells #[.slice none 0 0] 125)).heap.size = w.heap.size + 1 + 1 + 1 := by simp
  rw [World.size_alloc] at c1
  rw [World.size_alloc, World.size_alloc] at b2
  clear b0 b1
  generalize ((w.alloc (.cells #[keyF kg fr] 97)).alloc (.cells #[cmpF] 99)).alloc (.cells #[.slice none 0 0] 125) = w1 at *
  rename_i KO hKO
  refine wpIn_range_own (gf := g) (lb := lb) rfl (by omega) rfl trivial eg (HI.out _ (by omega))
    (fun A k args W h => by obtain ⟨v, rfl, _⟩ := h; rfl)
    (fun W => Boxed W (w.heap.size + 1 + 1) 125 (.slice none 0 0) ∧ Boxed W w.heap.size 97 (keyF kg fr) ∧ Boxed W (w.heap.size + 1) 99 cmpF ∧ Below w.heap.size w W)
    (fun A k W => SrtAt w E ky kg fr A k W)
    (fun _ _ _ => False)
    ?i0 (fun A k hA => srt_steps HE.out (by omega) (by omega)) (fun A c hA W W' row h => h.elim)
    ?hy (fun W h => HR.out W h.2.2.2) (fun A k W h => HR.out W h.below) ⟨b2, c0, c1, hbl⟩ ?start
    (fun args => { tmps := #[.func (.func g) #[] lb, keyF kg fr, cmpF, undef, .pointer (some ⟨w.heap.size, 0, none⟩), .pointer (some ⟨w.heap.size + 1, 0, none⟩), .slice none 0 0, .pointer (some ⟨w.heap.size + 1 + 1, 0, none⟩), args.getD 0 undef, undef, undef, undef, .func (.func g) #[] lb, args.getD 0 undef, undef, undef, undef, undef, undef, undef, undef, undef, undef, undef, undef, undef, undef, undef, undef, undef, undef, undef, undef, undef, undef, undef, undef, undef, undef, undef, undef, undef], defers := [] }) ?assign ?body ?done ?stop
  case i0 =>
    rintro _ W W' row ⟨h1, h2, h3, h4⟩ hg hr
    have hne : ∀ {B : Nat} {t : TypeId} {v : Value}, Boxed W B t v → some B ≠ row := fun {B t v} h e => by
      obtain ⟨_, o, ho, hc⟩ := hr B e.symm
      rw [show W.heap[B]? = _ from h] at ho; cases ho; cases hc
    exact ⟨h1.kept hg (hne h1), h2.kept hg (hne h2), h3.kept hg (hne h3), h4.grown hg h4.size (fun r e => by have := (hr r e).1; omega)⟩
  case hy =>
    rintro ⟨A, k, args⟩ W W' row ⟨v, hv, h⟩ hg hr
    exact ⟨v, hv, HE.out _ _ _ _ _ _ h hg fun r e => by obtain ⟨_, o, ho, hc⟩ := hr r e; exact .inr ⟨o, ho, fun cs h => by subst h; cases hc⟩⟩
  case start =>
    intro A W h hA hAl
    exact ⟨⟨.slice none 0 0, fun _ => undef, h.1, ⟨rfl, .inl ⟨rfl, rfl⟩⟩, fun t ht => absurd ht (by omega)⟩, h.2.1, h.2.2.1, h.2.2.2, by omega⟩
  case assign =>
    rintro l A k args W K ⟨v, rfl, h⟩ hK
    gi_wp2
    exact hK
  case body =>
    rintro l A k args W hk hA hAl ⟨⟨sv, xs, h1, h2, h3⟩, h4, h5, h6, h7⟩ ⟨v, rfl, hv⟩
    obtain ⟨vp, vn, vc, rfl⟩ := HE1.out _ _ _ _ hv
    obtain ⟨sp, sn, sc, rfl⟩ := own_shape h2
    have H2 := Lib.hid h2
    have H3 := Lib.hid h3
    have HV := Lib.hid hv
    have hbw := h6.size
    gi_wp2
    refine RW.r_pairs (B4 := w.heap.size) (Bp := w.heap.size + 1 + 1) (sp := sp) (sn := sn) (sc := sc) (g := kg) (fr := fr) (vp := vp) (vn := vn) (vc := vc) (ky := ky k) rfl rfl rfl (dag_of (by kernel_rfl)) (by kernel_rfl) (by kernel_rfl) (by kernel_rfl) rfl rfl rfl rfl rfl rfl rfl rfl rfl rfl rfl rfl (by kernel_rfl) (by kernel_rfl) rfl rfl rfl rfl rfl rfl (by kernel_rfl) (by kernel_rfl) rfl rfl rfl (by kernel_rfl) rfl rfl rfl (by kernel_rfl) (by kernel_rfl) rfl rfl rfl (by kernel_rfl) rfl rfl rfl
      (fun W' hW => (h1.kept (grown_below hW) (by simp)).cell) (fun W' hW => (h4.kept (grown_below hW) (by simp)).cell) ek
      (fun W' hW => HK.out A k _ W' hk (HE.out _ _ _ _ _ _ HV.out (grown_below hW) (fun r e => by cases e)) (h6.trans (hW.mono (by omega)))) ?_
    intro W' b ty hW hb
    have hown := H2.out.kept (grown_below hW) (own_ne H2.out fun r e => by cases e)
    have hcs : ∀ j u, [Value.int .i64 (ky k), .slice vp vn vc][j]? = some u → W'.cell? ((⟨b, 0, none⟩ : Addr).add j) = some u := fun j u hj => by
      rw [Addr.add_lit, Nat.zero_add]
      match j, hj with
      | 0, hj => cases hj; rw [cell_of_row _ _ _ _ _ _ hb]; rfl
      | 1, hj => cases hj; rw [cell_of_row _ _ _ _ _ _ hb]; rfl
    have hone : ∀ u ∈ [Value.int .i64 (ky k), .slice vp vn vc], u.oneCell' = true := fun u hu => by
      simp only [List.mem_cons, List.not_mem_nil, or_false] at hu
      rcases hu with rfl | rfl <;> rfl
    obtain ⟨v', w', hrun, hown', hgrow, -⟩ := run_append_own (P := Tryz.prog) (w := W') (A + 1) 125 ty 127 i0 _ 2 32 Tryz.underlying125 hi hz0 hz1 hz2 rfl (by decide) _ _ _ hown ⟨b, 0, none⟩ 1 1 _ rfl hcs hone (by unfold maxLen; omega) (by omega) (by have := hW.size; omega)
    obtain ⟨p', n', c', rfl⟩ := own_shape hown'
    have B1 := h1.kept (grown_below hW) (by simp)
    have B4 := h4.kept (grown_below hW) (by simp)
    have B5 := h5.kept (grown_below hW) (by simp)
    have nb : ∀ {B : Nat} {t : TypeId} {u : Value}, Boxed W' B t u → t ≠ 127 → some B ≠ (Value.slice sp sn sc).ownBlock := fun h ht => h.not_row ht hown
    have C1 := B1.kept hgrow (nb B1 (by decide))
    have C4 := B4.kept hgrow (nb B4 (by decide))
    have C5 := B5.kept hgrow (nb B5 (by decide))
    have gs := grownBy_setCell' w' (w.heap.size + 1 + 1) (.slice p' n' c')
    refine ⟨p', n', c', w', hrun, ⟨_, C1.cell⟩, C1.frozen, fun a => ?_⟩
    have nint : ∀ r, (Value.slice sp sn sc).ownBlock = some r → r = A ∨ ∃ o : Obj, W'.heap[r]? = some o ∧ ∀ cs, o ≠ .cells cs 3 (0, 0) := fun r e => by
      obtain ⟨_, cs, h⟩ := own_lt hown r e
      exact .inr ⟨_, h, fun cs' h' => by injection h' with h1 h2; revert h2; decide⟩
    have nbox : ∀ r, some (w.heap.size + 1 + 1) = some r → r = A ∨ ∃ o : Obj, w'.heap[r]? = some o ∧ ∀ cs, o ≠ .cells cs 3 (0, 0) := fun r e => by
      cases e
      exact .inr ⟨_, C1, fun cs' h' => by injection h' with h1 h2; revert h2; decide⟩
    have grow : ∀ t v, E A t v W → E A t v (w'.setCell ⟨w.heap.size + 1 + 1, 0, none⟩ (.slice p' n' c')) := fun t v h =>
      HE.out _ _ _ _ _ _ (HE.out _ _ _ _ _ _ (HE.out _ _ _ _ _ _ h (grown_below hW) (fun r e => by cases e)) hgrow nint) gs nbox
    have hAW : A < W'.heap.size := by have := hW.size; omega
    have hkeep : KeepsOthers W (w'.setCell ⟨w.heap.size + 1 + 1, 0, none⟩ (.slice p' n' c')) := ((keeps_below hW).trans (KeepsOthers.of_grownBy hgrow fun j o ej hj => by
      obtain ⟨_, cs, h⟩ := own_lt hown j ej
      rw [h] at hj; cases hj; rfl)).trans (KeepsOthers.setCell _ _ _)
    have hbel : Below w.heap.size w (w'.setCell ⟨w.heap.size + 1 + 1, 0, none⟩ (.slice p' n' c')) :=
      (((h6.trans (hW.mono (by omega))).grown hgrow (by have := hW.size; omega) (fun r e => by have := (own_lt hown r e).1; omega)).setCell (by show w.heap.size ≤ w.heap.size + 1 + 1; omega) _)
    refine ⟨hkeep, ?_, ⟨⟨.slice p' n' c', fun t => if t = k then .slice vp vn vc else xs t, C1.set _, ?_, fun t ht => ?_⟩, C4.kept gs (by simp; omega), C5.kept gs (by simp), hbel, h7⟩⟩
    · refine (gs.block A (by have := hgrow.size; omega) (by simp; omega)).trans ((hgrow.block A hAW fun e => ?_).trans (hW.block A hAl))
      have := (own_lt hown A e.symm).1
      omega
    · rw [pairC_succ, if_pos rfl, pairC_congr (ys := xs) (fun t ht => if_neg (by omega))]
      exact hown'.kept gs (own_ne hown' fun r e => by cases e; exact .inl (by omega))
    · show E A t (if t = k then _ else _) _
      by_cases e : t = k
      · rw [if_pos e, e]; exact grow k _ HV.out
      · rw [if_neg e]; exact grow t _ (H3.out t (by omega))
  case done =>
    rintro D A W hD ⟨⟨sv, xs, h1, h2, h3⟩, h4, h5, h6, h7⟩ hK
    obtain ⟨b, cap, cur, rfl, hb1, hb2, hb3⟩ := own_cells h2 hN1
    have hbl : b < W.heap.size := (Array.getElem?_eq_some_iff.1 hb2).1
    have hbD : D ≠ b := fun e => by rw [← e, hK] at hb2; cases hb2
    have hDl : D < W.heap.size := (Array.getElem?_eq_some_iff.1 hK).1
    have HS := Lib.hid (c_sortKeyed W b cap N (w.heap.size + 1) ky (fun t => if t < N then xs t else .slice none 0 0) (fun t => by
      by_cases h : t < N
      · obtain ⟨p, n, c, e⟩ := HE1.out _ _ _ _ (h3 t h)
        exact ⟨p, n, c, by rw [if_pos h]; exact e⟩
      · exact ⟨none, 0, 0, if_neg h⟩) hN hbl (by omega) h5.cell (fun j hj => by rw [if_pos hj]; exact hb3 j hj) (fun j => by simp [World.frozen?, hb2]))
    have HX : Hid (∀ W', W.grownBy W' (some b) → Boxed W' (w.heap.size + 1 + 1) 125 (.slice (some ⟨b, 0, none⟩) N cap) ∧ (∀ t, t < N → E A t (xs t) W') ∧ Below w.heap.size w W' ∧ W'.heap[D]? = some (.deferred (some [])) ∧ b < W'.heap.size ∧ D < W'.heap.size ∧ w.heap.size ≤ W'.heap.size) := fun W' hg => by
      have hs := hg.size
      have hs6 := h6.size
      refine ⟨h1.kept hg (by simp; omega), fun t ht => HE.out _ _ _ _ _ _ (h3 t ht) hg fun r e => ?_, h6.grown hg h6.size (fun r e => by cases e; omega), (hg.block D hDl (by simpa using fun e => hbD e)).trans hK, by omega, by omega, by omega⟩
      cases e
      exact .inr ⟨_, hb2, fun cs' h' => by injection h' with h1 h2; revert h2; decide⟩
    have c1 := h1.cell
    clear h1 h2 h3 h4 h5 h6 hb2 hb3
    refine hKO _ _ (wpIn_wide.2 ?_)
    clear hKO
    go_wp2_with (first
      | (go_at_call 90; refine HS.out.mono ?_; rintro e w2 ⟨rfl, hg2, hsz, hp2⟩; obtain ⟨d1, d2, d3, d4, d5, d6, d7⟩ := HX.out w2 hg2; have d1c := d1.cell; have d1a := (d1.alloc (.cells (madeCells #[.slice none 0 0] N) 32)).cell))
    obtain ⟨xs', hxs'⟩ : ∃ f : Nat → Value, f = fun j => if ((pairR ky N)[j]!).2 < N then xs ((pairR ky N)[j]!).2 else .slice none 0 0 := ⟨_, rfl⟩
    have HF := Lib.hid hxs'
    have HSl : Hid (∀ j, ∃ p n c, xs' j = .slice p n c) := fun j => by
      rw [HF.out]
      dsimp only
      by_cases h : ((pairR ky N)[j]!).2 < N
      · rw [if_pos h]; exact HE1.out _ _ _ _ (d2 _ h)
      · exact ⟨none, 0, 0, if_neg h⟩
    have HP : Hid (∀ j, j < N → w2.cell? ⟨b, j * 2, none⟩ = some (.int .i64 ((pairR ky N)[j]!).1) ∧ w2.cell? ⟨b, j * 2 + 1, none⟩ = some (xs' j)) := fun j hj => by rw [HF.out]; exact hp2 j hj
    have HB0 : Hid (Below w2.heap.size w2 (w2.alloc (.cells (madeCells #[.slice none 0 0] N) 32))) := (Below.refl _ _).alloc (Nat.le_refl _) _
    clear hxs' hp2 HS HX
    go_loopw [10, 11, 30] (fun _ _ i wr => ∃ (k : Nat) (f : Nat → Value), k ≤ N ∧ i = .int .i64 k ∧ wr.rowIs w2.heap.size 32 N (fun j => f j) ∧ Hid (∀ j, j < k → f j = xs' j) ∧ Hid (Below w2.heap.size w2 wr)) (fun _ _ i _ => N - (intOf i).toNat)
    case atStart => exact ⟨0, fun _ => .slice none 0 0, Nat.zero_le _, rfl, World.rowIs_made _ _ _ _, fun j hj => absurd hj (by omega), HB0.out⟩
    case round =>
      obtain ⟨k, f, hk, rfl, hrow, HV, HBw⟩ := hrel
      have hsz : w2.heap.size < wr.heap.size := hrow.lt
      by_cases hlt : k < N
      · obtain ⟨x0, x1⟩ := HP.out k hlt
        obtain ⟨p, n, c, hx⟩ := HSl.out k
        have HX := Lib.hid hx
        rw [hx] at x1
        rw [← HBw.out.cell (p := ⟨b, k * 2, none⟩) d5] at x0
        rw [← HBw.out.cell (p := ⟨b, k * 2 + 1, none⟩) d5] at x1
        generalize ((pairR ky N)[k]!).1 = ka at *
        have hS := hrow.cell (i := k) (by omega)
        have hZ := hrow.frozen k
        have hbr : b < wr.heap.size := by omega
        clear hx
        go_wp2_with fail
        go_roundw
        case rel => exact ⟨k + 1, fun j => if j = k then .slice p n c else f j, by omega, by go_num, (hrow.set _ _).alloc _, fun j hj => by
          show (if j = k then Value.slice p n c else f j) = xs' j
          by_cases e : j = k
          · rw [if_pos e, e, HX.out]
          · rw [if_neg e]; exact HV.out j (by omega), (Below.setCell HBw.out (Nat.le_refl _) _).alloc (by have := HBw.out.size; simpa using this) _⟩
        case measure => simp [intOf]; omega
      · obtain rfl : k = N := by omega
        go_wp2
        have hKr : wr.heap[D]? = some (.deferred (some [])) := (HBw.out.block D d6).trans d4
        have hne : ∀ r, some D = some r → r = A ∨ ∃ o : Obj, wr.heap[r]? = some o ∧ ∀ cs, o ≠ .cells cs 3 (0, 0) := fun r e => by cases e; exact .inr ⟨_, hKr, fun cs h => by cases h⟩
        have hbl := d3.trans (HBw.out.mono d7)
        refine ⟨by simp, .inl ⟨_, _, rfl, run_takeDeferred hKr, ?_⟩⟩
        refine ⟨.slice (some ⟨w2.heap.size, 0, none⟩) k k, by simp [results, Tryz.results74, go_sem], w2.heap.size, A, xs, rfl, by omega, (hrow.of_block (World.putObj_heap_other (by omega))).congr fun j hj => ?_, fun t ht => HE.out _ _ _ _ _ _ (HE.out _ _ _ _ _ _ (d2 t ht) (grown_below HBw.out) (fun r e => by cases e)) (grownBy_putObj' wr D (.deferred none)) hne, hbl.trans (belowK_b (w := w) (Nat.le_refl _) wr D _ _ (by omega) hKr rfl rfl)⟩
        rw [HV.out j hj, HF.out]
        exact if_pos (pairR_lt ky k j hj)
  case stop => exact fun D A c W hD h => h.elim
end Go.Proofs.YtmhggphkhabjlaaGreatDoor
