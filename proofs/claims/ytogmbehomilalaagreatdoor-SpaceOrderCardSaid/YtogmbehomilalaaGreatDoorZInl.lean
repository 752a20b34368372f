/- Coordinates in the order of their keys. -/
import Derived.Test.YtogmbehomilalaaGreatDoorZSrK
import Derived.Test.YtogmbehomilalaaGreatDoorZBldK

/- Coordinates in the order of their keys. -/
section
namespace Go.Proofs.YtogmbehomilalaaGreatDoor
open Go Go.RowKit Go.Deep Go.Shelf Go.Sort
attribute [local go_sem] Oper.semAt_some

theorem info_keyed : (Tryz.prog.info? 143).map (fun i => (i.zero, i.size, i.bytes)) = some (some (.agg #[.int .i64 0, .slice none 0 0]), 2, 32) := by kernel_rfl
/-- The pairs' cells. -/
def pairC (ky : Nat → Int) (xs : Nat → Value) (k : Nat) : List Value := (List.range k).flatMap fun t => [.int .i64 (ky t), xs t]
theorem pairC_succ (ky : Nat → Int) (xs : Nat → Value) (k : Nat) : pairC ky xs (k + 1) = pairC ky xs k ++ [.int .i64 (ky k), xs k] := by
  unfold pairC
  rw [List.range_succ, List.flatMap_append]
  simp
theorem pairC_congr {ky : Nat → Int} {xs ys : Nat → Value} {k : Nat} (h : ∀ t, t < k → xs t = ys t) : pairC ky xs k = pairC ky ys k := by
  induction k with
  | zero => rfl
  | succ k ih => rw [pairC_succ, pairC_succ, ih (fun t ht => h t (by omega)), h k (by omega)]
abbrev keyF (g : Nat) (fr : Value) : Value := .func (.func g) #[fr] #[]
abbrev cmpF : Value := .func (.func 50) #[] #[]
/-- What is kept between the rounds. -/
structure SrtAt (w : World) (E : Nat → Nat → Value → World → Prop) (ky : Nat → Int) (g : Nat) (fr : Value) (A k : Nat) (W : World) : Prop where
  box : ∃ v xs, Boxed W (w.heap.size + 1 + 1) 141 v ∧ W.ownsRow (A + 1) 143 2 v k (pairC ky xs k) ∧ ∀ t, t < k → E A t (xs t) W
  key : Boxed W w.heap.size 95 (keyF g fr)
  cmp : Boxed W (w.heap.size + 1) 97 cmpF
  below : Below w.heap.size w W
  ge : w.heap.size + 1 + 1 < A
theorem boxed_ne {W : World} {B : Nat} {t : TypeId} {v : Value} (h : Boxed W B t v) {A C : Nat} {row : Option Nat} (hA : B < A) (hr : ∀ r, row = some r → r = A ∨ (C ≤ r ∧ ∃ o : Obj, W.heap[r]? = some o ∧ o.isCells = false)) : some B ≠ row := fun e => by
  rcases hr B e.symm with h1 | ⟨_, o, ho, hc⟩
  · omega
  · rw [show W.heap[B]? = _ from h] at ho; cases ho; cases hc
theorem srt_steps {w : World} {E : Nat → Nat → Value → World → Prop} {ky : Nat → Int} {g : Nat} {fr : Value} (hE : Elem E) {B A k : Nat} (hB : w.heap.size ≤ B) (hA : w.heap.size + 1 + 1 < A) : StepsC B A (SrtAt w E ky g fr A k) := by
  intro W W' row ⟨⟨v, xs, h1, h2, h3⟩, h4, h5, h6, h7⟩ hg hr
  refine ⟨⟨v, xs, h1.kept hg (boxed_ne h1 hA hr), h2.kept hg (own_ne h2 fun r e => (hr r e).imp (fun h => by omega) (fun h => h.2)), fun t ht => hE _ _ _ _ _ _ (h3 t ht) hg fun r e => (hr r e).imp id fun ⟨_, o, ho, hc⟩ => ⟨o, ho, fun cs h => by subst h; cases hc⟩⟩, h4.kept hg (boxed_ne h4 (by omega) hr), h5.kept hg (boxed_ne h5 (by omega) hr), h6.grown hg h6.size (fun r e => ?_), h7⟩
  rcases hr r e with h | ⟨h, _⟩ <;> omega
theorem keeps_below {W W' : World} (h : Below W.heap.size W W') : KeepsOthers W W' :=
  ⟨h.size, fun k _ hk _ => (h.block k (Array.getElem?_eq_some_iff.1 hk).1).trans hk⟩
theorem dag_of {ops : Array Oper} (h : (List.range ops.size).all (fun i => ((ops[i]?).map fun o => o.after.all fun e => decide (e.on < i)).getD true) = true) : ∀ (i : Nat) (o : Oper), ops[i]? = some o → ∀ e : Edge, e ∈ o.after → e.on < i := by
  intro i o ho e he
  have h1 := List.all_eq_true.1 h i (List.mem_range.2 (Array.getElem?_eq_some_iff.1 ho).1)
  rw [ho] at h1
  simp only [Option.map_some, Option.getD_some, Array.all_eq_true_iff_forall_mem] at h1
  simpa using h1 e he

theorem pairC_len (ky : Nat → Int) (xs : Nat → Value) (N : Nat) : (pairC ky xs N).length = N * 2 := by
  induction N with
  | zero => rfl
  | succ n ih => rw [pairC_succ, List.length_append, ih]; simp; omega
theorem pairC_get (ky : Nat → Int) (xs : Nat → Value) (N j : Nat) (hj : j < N) : (pairC ky xs N)[j * 2]? = some (.int .i64 (ky j)) ∧ (pairC ky xs N)[j * 2 + 1]? = some (xs j) := by
  induction N with
  | zero => omega
  | succ n ih =>
    rw [pairC_succ]
    by_cases e : j = n
    · subst e
      rw [List.getElem?_append_right (by rw [pairC_len]; omega), List.getElem?_append_right (by rw [pairC_len]; omega), pairC_len]
      constructor
      · rw [show j * 2 - j * 2 = 0 by omega]; rfl
      · rw [show j * 2 + 1 - j * 2 = 1 by omega]; rfl
    · rw [List.getElem?_append_left (by rw [pairC_len]; omega), List.getElem?_append_left (by rw [pairC_len]; omega)]
      exact ih (by omega)
/-- The pairs' cells, by themselves. -/
theorem own_cells {W : World} {base e : Nat} {v : Value} {ky : Nat → Int} {xs : Nat → Value} {N : Nat} (h : W.ownsRow base e 2 v N (pairC ky xs N)) (hN : 1 ≤ N) :
    ∃ b cap cur, v = .slice (some ⟨b, 0, none⟩) N cap ∧ base ≤ b ∧ W.heap[b]? = some (.cells cur e (0, 0)) ∧ ∀ j, j < N → W.cell? ⟨b, j * 2, none⟩ = some (.int .i64 (ky j)) ∧ W.cell? ⟨b, j * 2 + 1, none⟩ = some (xs j) := by
  rcases h.2 with ⟨_, h0⟩ | ⟨g, cap, cur, h1, h2, h3, h4, h5, h6, h7⟩
  · omega
  · refine ⟨g, cap, cur, h1, h2, h3, fun j hj => ?_⟩
    obtain ⟨a1, a2⟩ := pairC_get ky xs N j hj
    have get : ∀ i, i < N * 2 → cur[i]? = (pairC ky xs N)[i]? := fun i hi => by
      rw [← h7, List.getElem?_take, if_pos hi, Array.getElem?_toList]
    rw [cell_of_row _ _ _ _ _ _ h3, cell_of_row _ _ _ _ _ _ h3, get _ (by omega), get _ (by omega)]
    exact ⟨a1, a2⟩

theorem pairR_of (ky : Nat → Int) (N j : Nat) (hj : j < N) : ∃ i, i < N ∧ (pairR ky N)[j]! = (ky i, i) := by
  have hds : (pairD ky N).size = N := by simp [pairD]
  have hp := (pdq_sorts (ltOf fun x y : Int × Nat => Lib.compareInt x.1 y.1) swo_key (pairD ky N) 0 N (Lib.bitLen N) true true (Nat.zero_le _) (by rw [hds]; exact Nat.le_refl _) (Or.inl rfl)).1
  exact permIn_all _ _ 0 N (fun q : Int × Nat => ∃ i, i < N ∧ q = (ky i, i)) (by rw [hds]; exact Nat.le_refl _) hp (fun i _ hi => ⟨i, hi, by simp [pairD, hi]⟩) j (Nat.zero_le _) hj
theorem pairR_lt (ky : Nat → Int) (N j : Nat) (hj : j < N) : ((pairR ky N)[j]!).2 < N := by
  obtain ⟨i, hi, e⟩ := pairR_of ky N j hj
  rw [e]; exact hi

set_option maxRecDepth 100000 in
set_option maxHeartbeats 4000000 in
theorem c_sorted (w : World) (g : Nat) (lb : Array Value) (eg : ∀ args w, (callFunc g args).run Tryz.prog w = .ok (.enter g args) w) {R : World → Prop} {E : Nat → Nat → Value → World → Prop} {N : Nat} (hN : N ≤ 1000000) (hN1 : 1 ≤ N)
    (iter : ∀ m, 1 ≤ m → IterOwn Fence.wide m Tryz.prog g lb R (fun A t args W => ∃ v, args = #[v] ∧ E A t v W) N) (hE : Elem E) (hE1 : ∀ A t v W, E A t v W → ∃ p n c, v = .slice p n c) (hR : ∀ W, Below w.heap.size w W → R W)
    (kg : Nat) (fr : Value) (ek : ∀ args w, (callFunc kg args).run Tryz.prog w = .ok (.enter kg args) w) (ky : Nat → Int)
    (hK : ∀ A t v W, t < N → E A t v W → Below w.heap.size w W → Calls Tryz.prog kg #[fr, v] W fun e w' => e = .returned (.int .i64 (ky t)) ∧ Below W.heap.size W w') :
    Calls Tryz.prog 47 #[.func (.func g) #[] lb, keyF kg fr, cmpF] w fun e w' => ∃ (b A : Nat) (xs : Nat → Value), e = .returned (.slice (some ⟨b, 0, none⟩) N N) ∧ w.heap.size ≤ b ∧ w'.rowIs b 35 N (fun j => xs ((pairR ky N)[j]!).2) ∧ (∀ t, t < N → E A t (xs t) w') ∧ Below w.heap.size w w' := by
  refine (callsIn_wide (n := 3)).1 ?_
  refine callsIn_of_wp_marks Tryz.func47 rfl trivial ?_ rfl
  simp only [Tryz.ntmps47, List.size_toArray, List.length_cons, List.length_nil, Nat.reduceAdd, Nat.reduceSub, Array.replicate_succ, Array.replicate_zero, List.push_toArray, List.append_toArray, List.nil_append, List.cons_append]
  have HE := Lib.hid hE
  have HE1 := Lib.hid hE1
  have HR := Lib.hid hR
  have HI := Lib.hid iter
  have HK := Lib.hid hK
  clear hE hE1 hR iter hK
  obtain ⟨i0, hi, hz0, hz1, hz2⟩ := info_parts info_keyed
  have hmk := fun W => run_make_row' (P := Tryz.prog) 48 35 (.slice none 0 0) 24 Tryz.underlying48 info_ints rfl .i64 .i64 N (by omega) (by omega) W
  gi_wp2
  have b0 := Boxed.new w 95 (keyF kg fr)
  have b1 := Boxed.new (w.alloc (.cells #[keyF kg fr] 95)) 97 cmpF
  have b2 := Boxed.new ((w.alloc (.cells #[keyF kg fr] 95)).alloc (.cells #[cmpF] 97)) 141 (.slice none 0 0)
  have c0 := (b0.alloc (.cells #[cmpF] 97)).alloc (.cells #[.slice none 0 0] 141)
  have c1 := b1.alloc (.cells #[.slice none 0 0] 141)
  have hbl : Below w.heap.size w (((w.alloc (.cells #[keyF kg fr] 95)).alloc (.cells #[cmpF] 97)).alloc (.cells #[.slice none 0 0] 141)) := (((Below.refl _ _).alloc (Nat.le_refl _) _).alloc (by simp) _).alloc (by simp; omega) _
  have hsz : (((w.alloc (.cells #[keyF kg fr] 95)).alloc (.cells #[cmpF] 97)).alloc (.cells #[.slice none 0 0] 141)).heap.size = w.heap.size + 1 + 1 + 1 := by simp
  rw [World.size_alloc] at c1
  rw [World.size_alloc, World.size_alloc] at b2
  clear b0 b1
  generalize ((w.alloc (.cells #[keyF kg fr] 95)).alloc (.cells #[cmpF] 97)).alloc (.cells #[.slice none 0 0] 141) = w1 at *
  rename_i KO hKO
  refine wpIn_range_own (gf := g) (lb := lb) rfl (by omega) rfl trivial eg (HI.out _ (by omega))
    (fun A k args W h => by obtain ⟨v, rfl, _⟩ := h; rfl)
    (fun W => Boxed W (w.heap.size + 1 + 1) 141 (.slice none 0 0) ∧ Boxed W w.heap.size 95 (keyF kg fr) ∧ Boxed W (w.heap.size + 1) 97 cmpF ∧ Below w.heap.size w W)
    (fun A k W => SrtAt w E ky kg fr A k W)
    (fun _ _ _ => False)
    ?i0 (fun A k hA => srt_steps HE.out (by omega) (by omega)) (fun A c hA W W' row h => h.elim)
    ?hy (fun W h => HR.out W h.2.2.2) (fun A k W h => HR.out W h.below) ⟨b2, c0, c1, hbl⟩ ?start
    (fun args => { tmps := #[.func (.func g) #[] lb, keyF kg fr, cmpF, undef, .pointer (some ⟨w.heap.size, 0, none⟩), .pointer (some ⟨w.heap.size + 1, 0, none⟩), .slice none 0 0, .pointer (some ⟨w.heap.size + 1 + 1, 0, none⟩), args.getD 0 undef, undef, undef, undef, .func (.func g) #[] lb, args.getD 0 undef, undef, undef, undef, undef, undef, undef, undef, undef, undef, undef, undef, undef, undef, undef, undef, undef, undef, undef, undef, undef, undef, undef, undef, undef, undef, undef, undef, undef], defers := [] }) ?assign ?body ?done ?stop
  case i0 =>
    rintro _ W W' row ⟨h1, h2, h3, h4⟩ hg hr
    have hne : ∀ {B : Nat} {t : TypeId} {v : Value}, Boxed W B t v → some B ≠ row := fun {B t v} h e => by
      obtain ⟨_, o, ho, hc⟩ := hr B e.symm
      rw [show W.heap[B]? = _ from h] at ho; cases ho; cases hc
    exact ⟨h1.kept hg (hne h1), h2.kept hg (hne h2), h3.kept hg (hne h3), h4.grown hg h4.size (fun r e => by have := (hr r e).1; omega)⟩
  case hy =>
    rintro ⟨A, k, args⟩ W W' row ⟨v, hv, h⟩ hg hr
    exact ⟨v, hv, HE.out _ _ _ _ _ _ h hg fun r e => by obtain ⟨_, o, ho, hc⟩ := hr r e; exact .inr ⟨o, ho, fun cs h => by subst h; cases hc⟩⟩
  case start =>
    intro A W h hA hAl
    exact ⟨⟨.slice none 0 0, fun _ => undef, h.1, ⟨rfl, .inl ⟨rfl, rfl⟩⟩, fun t ht => absurd ht (by omega)⟩, h.2.1, h.2.2.1, h.2.2.2, by omega⟩
  case assign =>
    rintro l A k args W K ⟨v, rfl, h⟩ hK
    gi_wp2
    exact hK
  case body =>
    rintro l A k args W hk hA hAl ⟨⟨sv, xs, h1, h2, h3⟩, h4, h5, h6, h7⟩ ⟨v, rfl, hv⟩
    obtain ⟨vp, vn, vc, rfl⟩ := HE1.out _ _ _ _ hv
    obtain ⟨sp, sn, sc, rfl⟩ := own_shape h2
    have H2 := Lib.hid h2
    have H3 := Lib.hid h3
    have HV := Lib.hid hv
    have hbw := h6.size
    gi_wp2
    refine RW.r_pairs (B4 := w.heap.size) (Bp := w.heap.size + 1 + 1) (sp := sp) (sn := sn) (sc := sc) (g := kg) (fr := fr) (vp := vp) (vn := vn) (vc := vc) (ky := ky k) rfl rfl rfl (dag_of (by kernel_rfl)) (by kernel_rfl) (by kernel_rfl) (by kernel_rfl) rfl rfl rfl rfl rfl rfl rfl rfl rfl rfl rfl rfl (by kernel_rfl) (by kernel_rfl) rfl rfl rfl rfl rfl rfl (by kernel_rfl) (by kernel_rfl) rfl rfl rfl (by kernel_rfl) rfl rfl rfl (by kernel_rfl) (by kernel_rfl) rfl rfl rfl (by kernel_rfl) rfl rfl rfl
      (fun W' hW => (h1.kept (grown_below hW) (by simp)).cell) (fun W' hW => (h4.kept (grown_below hW) (by simp)).cell) ek
      (fun W' hW => HK.out A k _ W' hk (HE.out _ _ _ _ _ _ HV.out (grown_below hW) (fun r e => by cases e)) (h6.trans (hW.mono (by omega)))) ?_
    intro W' b ty hW hb
    have hown := H2.out.kept (grown_below hW) (own_ne H2.out fun r e => by cases e)
    have hcs : ∀ j u, [Value.int .i64 (ky k), .slice vp vn vc][j]? = some u → W'.cell? ((⟨b, 0, none⟩ : Addr).add j) = some u := fun j u hj => by
      rw [Addr.add_lit, Nat.zero_add]
      match j, hj with
      | 0, hj => cases hj; rw [cell_of_row _ _ _ _ _ _ hb]; rfl
      | 1, hj => cases hj; rw [cell_of_row _ _ _ _ _ _ hb]; rfl
    have hone : ∀ u ∈ [Value.int .i64 (ky k), .slice vp vn vc], u.oneCell' = true := fun u hu => by
      simp only [List.mem_cons, List.not_mem_nil, or_false] at hu
      rcases hu with rfl | rfl <;> rfl
    obtain ⟨v', w', hrun, hown', hgrow, -⟩ := run_append_own (P := Tryz.prog) (w := W') (A + 1) 141 ty 143 i0 _ 2 32 Tryz.underlying141 hi hz0 hz1 hz2 rfl (by decide) _ _ _ hown ⟨b, 0, none⟩ 1 1 _ rfl hcs hone (by unfold maxLen; omega) (by omega) (by have := hW.size; omega)
    obtain ⟨p', n', c', rfl⟩ := own_shape hown'
    have B1 := h1.kept (grown_below hW) (by simp)
    have B4 := h4.kept (grown_below hW) (by simp)
    have B5 := h5.kept (grown_below hW) (by simp)
    have nb : ∀ {B : Nat} {t : TypeId} {u : Value}, Boxed W' B t u → t ≠ 143 → some B ≠ (Value.slice sp sn sc).ownBlock := fun h ht => h.not_row ht hown
    have C1 := B1.kept hgrow (nb B1 (by decide))
    have C4 := B4.kept hgrow (nb B4 (by decide))
    have C5 := B5.kept hgrow (nb B5 (by decide))
    have gs := grownBy_setCell' w' (w.heap.size + 1 + 1) (.slice p' n' c')
    refine ⟨p', n', c', w', hrun, ⟨_, C1.cell⟩, C1.frozen, fun a => ?_⟩
    have nint : ∀ r, (Value.slice sp sn sc).ownBlock = some r → r = A ∨ ∃ o : Obj, W'.heap[r]? = some o ∧ ∀ cs, o ≠ .cells cs 3 (0, 0) := fun r e => by
      obtain ⟨_, cs, h⟩ := own_lt hown r e
      exact .inr ⟨_, h, fun cs' h' => by injection h' with h1 h2; revert h2; decide⟩
    have nbox : ∀ r, some (w.heap.size + 1 + 1) = some r → r = A ∨ ∃ o : Obj, w'.heap[r]? = some o ∧ ∀ cs, o ≠ .cells cs 3 (0, 0) := fun r e => by
      cases e
      exact .inr ⟨_, C1, fun cs' h' => by injection h' with h1 h2; revert h2; decide⟩
    have grow : ∀ t v, E A t v W → E A t v (w'.setCell ⟨w.heap.size + 1 + 1, 0, none⟩ (.slice p' n' c')) := fun t v h =>
      HE.out _ _ _ _ _ _ (HE.out _ _ _ _ _ _ (HE.out _ _ _ _ _ _ h (grown_below hW) (fun r e => by cases e)) hgrow nint) gs nbox
    have hAW : A < W'.heap.size := by have := hW.size; omega
    have hkeep : KeepsOthers W (w'.setCell ⟨w.heap.size + 1 + 1, 0, none⟩ (.slice p' n' c')) := ((keeps_below hW).trans (KeepsOthers.of_grownBy hgrow fun j o ej hj => by
      obtain ⟨_, cs, h⟩ := own_lt hown j ej
      rw [h] at hj; cases hj; rfl)).trans (KeepsOthers.setCell _ _ _)
    have hbel : Below w.heap.size w (w'.setCell ⟨w.heap.size + 1 + 1, 0, none⟩ (.slice p' n' c')) :=
      (((h6.trans (hW.mono (by omega))).grown hgrow (by have := hW.size; omega) (fun r e => by have := (own_lt hown r e).1; omega)).setCell (by show w.heap.size ≤ w.heap.size + 1 + 1; omega) _)
    refine ⟨hkeep, ?_, ⟨⟨.slice p' n' c', fun t => if t = k then .slice vp vn vc else xs t, C1.set _, ?_, fun t ht => ?_⟩, C4.kept gs (by simp; omega), C5.kept gs (by simp), hbel, h7⟩⟩
    · refine (gs.block A (by have := hgrow.size; omega) (by simp; omega)).trans ((hgrow.block A hAW fun e => ?_).trans (hW.block A hAl))
      have := (own_lt hown A e.symm).1
      omega
    · rw [pairC_succ, if_pos rfl, pairC_congr (ys := xs) (fun t ht => if_neg (by omega))]
      exact hown'.kept gs (own_ne hown' fun r e => by cases e; exact .inl (by omega))
    · show E A t (if t = k then _ else _) _
      by_cases e : t = k
      · rw [if_pos e, e]; exact grow k _ HV.out
      · rw [if_neg e]; exact grow t _ (H3.out t (by omega))
  case done =>
    rintro D A W hD ⟨⟨sv, xs, h1, h2, h3⟩, h4, h5, h6, h7⟩ hK
    obtain ⟨b, cap, cur, rfl, hb1, hb2, hb3⟩ := own_cells h2 hN1
    have hbl : b < W.heap.size := (Array.getElem?_eq_some_iff.1 hb2).1
    have hbD : D ≠ b := fun e => by rw [← e, hK] at hb2; cases hb2
    have hDl : D < W.heap.size := (Array.getElem?_eq_some_iff.1 hK).1
    have HS := Lib.hid (c_sortKeyed W b cap N (w.heap.size + 1) ky (fun t => if t < N then xs t else .slice none 0 0) (fun t => by
      by_cases h : t < N
      · obtain ⟨p, n, c, e⟩ := HE1.out _ _ _ _ (h3 t h)
        exact ⟨p, n, c, by rw [if_pos h]; exact e⟩
      · exact ⟨none, 0, 0, if_neg h⟩) hN hbl (by omega) h5.cell (fun j hj => by rw [if_pos hj]; exact hb3 j hj) (fun j => by simp [World.frozen?, hb2]))
    have HX : Hid (∀ W', W.grownBy W' (some b) → Boxed W' (w.heap.size + 1 + 1) 141 (.slice (some ⟨b, 0, none⟩) N cap) ∧ (∀ t, t < N → E A t (xs t) W') ∧ Below w.heap.size w W' ∧ W'.heap[D]? = some (.deferred (some [])) ∧ b < W'.heap.size ∧ D < W'.heap.size ∧ w.heap.size ≤ W'.heap.size) := fun W' hg => by
      have hs := hg.size
      have hs6 := h6.size
      refine ⟨h1.kept hg (by simp; omega), fun t ht => HE.out _ _ _ _ _ _ (h3 t ht) hg fun r e => ?_, h6.grown hg h6.size (fun r e => by cases e; omega), (hg.block D hDl (by simpa using fun e => hbD e)).trans hK, by omega, by omega, by omega⟩
      cases e
      exact .inr ⟨_, hb2, fun cs' h' => by injection h' with h1 h2; revert h2; decide⟩
    have c1 := h1.cell
    clear h1 h2 h3 h4 h5 h6 hb2 hb3
    refine hKO _ _ (wpIn_wide.2 ?_)
    clear hKO
    go_wp2_with (first
      | (go_at_call 89; refine HS.out.mono ?_; rintro e w2 ⟨rfl, hg2, hsz, hp2⟩; obtain ⟨d1, d2, d3, d4, d5, d6, d7⟩ := HX.out w2 hg2; have d1c := d1.cell; have d1a := (d1.alloc (.cells (madeCells #[.slice none 0 0] N) 35)).cell))
    obtain ⟨xs', hxs'⟩ : ∃ f : Nat → Value, f = fun j => if ((pairR ky N)[j]!).2 < N then xs ((pairR ky N)[j]!).2 else .slice none 0 0 := ⟨_, rfl⟩
    have HF := Lib.hid hxs'
    have HSl : Hid (∀ j, ∃ p n c, xs' j = .slice p n c) := fun j => by
      rw [HF.out]
      dsimp only
      by_cases h : ((pairR ky N)[j]!).2 < N
      · rw [if_pos h]; exact HE1.out _ _ _ _ (d2 _ h)
      · exact ⟨none, 0, 0, if_neg h⟩
    have HP : Hid (∀ j, j < N → w2.cell? ⟨b, j * 2, none⟩ = some (.int .i64 ((pairR ky N)[j]!).1) ∧ w2.cell? ⟨b, j * 2 + 1, none⟩ = some (xs' j)) := fun j hj => by rw [HF.out]; exact hp2 j hj
    have HB0 : Hid (Below w2.heap.size w2 (w2.alloc (.cells (madeCells #[.slice none 0 0] N) 35))) := (Below.refl _ _).alloc (Nat.le_refl _) _
    clear hxs' hp2 HS HX
    go_loopw [10, 11, 30] (fun _ _ i wr => ∃ (k : Nat) (f : Nat → Value), k ≤ N ∧ i = .int .i64 k ∧ wr.rowIs w2.heap.size 35 N (fun j => f j) ∧ Hid (∀ j, j < k → f j = xs' j) ∧ Hid (Below w2.heap.size w2 wr)) (fun _ _ i _ => N - (intOf i).toNat)
    case atStart => exact ⟨0, fun _ => .slice none 0 0, Nat.zero_le _, rfl, World.rowIs_made _ _ _ _, fun j hj => absurd hj (by omega), HB0.out⟩
    case round =>
      obtain ⟨k, f, hk, rfl, hrow, HV, HBw⟩ := hrel
      have hsz : w2.heap.size < wr.heap.size := hrow.lt
      by_cases hlt : k < N
      · obtain ⟨x0, x1⟩ := HP.out k hlt
        obtain ⟨p, n, c, hx⟩ := HSl.out k
        have HX := Lib.hid hx
        rw [hx] at x1
        rw [← HBw.out.cell (p := ⟨b, k * 2, none⟩) d5] at x0
        rw [← HBw.out.cell (p := ⟨b, k * 2 + 1, none⟩) d5] at x1
        generalize ((pairR ky N)[k]!).1 = ka at *
        have hS := hrow.cell (i := k) (by omega)
        have hZ := hrow.frozen k
        have hbr : b < wr.heap.size := by omega
        clear hx
        go_wp2_with fail
        go_roundw
        case rel => exact ⟨k + 1, fun j => if j = k then .slice p n c else f j, by omega, by go_num, (hrow.set _ _).alloc _, fun j hj => by
          show (if j = k then Value.slice p n c else f j) = xs' j
          by_cases e : j = k
          · rw [if_pos e, e, HX.out]
          · rw [if_neg e]; exact HV.out j (by omega), (Below.setCell HBw.out (Nat.le_refl _) _).alloc (by have := HBw.out.size; simpa using this) _⟩
        case measure => simp [intOf]; omega
      · obtain rfl : k = N := by omega
        go_wp2
        have hKr : wr.heap[D]? = some (.deferred (some [])) := (HBw.out.block D d6).trans d4
        have hne : ∀ r, some D = some r → r = A ∨ ∃ o : Obj, wr.heap[r]? = some o ∧ ∀ cs, o ≠ .cells cs 3 (0, 0) := fun r e => by cases e; exact .inr ⟨_, hKr, fun cs h => by cases h⟩
        have hbl := d3.trans (HBw.out.mono d7)
        refine ⟨by simp, .inl ⟨_, _, rfl, run_takeDeferred hKr, ?_⟩⟩
        refine ⟨.slice (some ⟨w2.heap.size, 0, none⟩) k k, by simp [results, Tryz.results47, go_sem], w2.heap.size, A, xs, rfl, by omega, (hrow.of_block (World.putObj_heap_other (by omega))).congr fun j hj => ?_, fun t ht => HE.out _ _ _ _ _ _ (HE.out _ _ _ _ _ _ (d2 t ht) (grown_below HBw.out) (fun r e => by cases e)) (grownBy_putObj' wr D (.deferred none)) hne, hbl.trans (belowK_b (w := w) (Nat.le_refl _) wr D _ _ (by omega) hKr rfl rfl)⟩
        rw [HV.out j hj, HF.out]
        exact if_pos (pairR_lt ky k j hj)
  case stop => exact fun D A c W hD h => h.elim
end Go.Proofs.YtogmbehomilalaaGreatDoor
end

/- The bits of the Hilbert order's key. -/
section
namespace Go.Proofs.YtogmbehomilalaaGreatDoor
open Go Go.RowKit Go.Deep

theorem p62 : (2 : Nat) ^ 62 = 4611686018427387904 := by decide
theorem mod64 {a : Nat} (ha : a < 2 ^ 62) : a % 2 ^ IntKind.i64.bits = a := Nat.mod_eq_of_lt (Nat.lt_of_lt_of_le ha (Nat.pow_le_pow_right (by decide) (by decide)))
theorem wrap_n {a : Nat} (ha : a < 2 ^ 62) : IntKind.i64.wrap (a : Int) = a := by
  rw [p62] at ha
  exact w64 (by omega) (by omega)
theorem xor_i {a b : Nat} (ha : a < 2 ^ 62) (hb : b < 2 ^ 62) : bits .xor .i64 (a : Int) (b : Int) = ((a ^^^ b : Nat) : Int) := by
  have h := Nat.xor_lt_two_pow ha hb
  simp only [bits, BitVec.ofInt_natCast, BitVec.toNat_xor, BitVec.toNat_ofNat, mod64 ha, mod64 hb]
  exact wrap_n h
theorem and_i {a b : Nat} (ha : a < 2 ^ 62) (hb : b < 2 ^ 62) : bits .and .i64 (a : Int) (b : Int) = ((a &&& b : Nat) : Int) := by
  have h : a &&& b < 2 ^ 62 := Nat.and_lt_two_pow _ hb
  simp only [bits, BitVec.ofInt_natCast, BitVec.toNat_and, BitVec.toNat_ofNat, mod64 ha, mod64 hb]
  exact wrap_n h
theorem or_i {a b : Nat} (ha : a < 2 ^ 62) (hb : b < 2 ^ 62) : bits .or .i64 (a : Int) (b : Int) = ((a ||| b : Nat) : Int) := by
  have h := Nat.or_lt_two_pow ha hb
  simp only [bits, BitVec.ofInt_natCast, BitVec.toNat_or, BitVec.toNat_ofNat, mod64 ha, mod64 hb]
  exact wrap_n h
theorem div_i (y q : Nat) : (y : Int) / 2 ^ q = ((y / 2 ^ q : Nat) : Int) := by simp
/-- Bit q of y, as 0 or 1. -/
def bitN (y q : Nat) : Nat := y / 2 ^ q % 2
theorem bit_i {y q : Nat} (hy : y < 2 ^ 62) : bits .and .i64 ((y : Int) / 2 ^ q) 1 = ((bitN y q : Nat) : Int) := by
  have h : y / 2 ^ q < 2 ^ 62 := Nat.lt_of_le_of_lt (Nat.div_le_self _ _) hy
  rw [div_i, show (1 : Int) = ((1 : Nat) : Int) from rfl, and_i h (by decide), Nat.and_one_is_mod]
  rfl

theorem s_hasBit (w : World) (y q : Nat) (hy : y < 2 ^ 62) (hq : q < 62) : Calls Tryz.prog 123 #[.int .i64 y, .int .i64 q] w fun e w' => e = .returned (.bool (bitN y q == 1)) ∧ w' = w := by
  have HB : Hid (bits .and .i64 ((y : Int) / 2 ^ q) 1 = ((bitN y q : Nat) : Int)) := bit_i hy
  have hy' : y < 4611686018427387904 := by rw [← p62]; exact hy
  go_enter Tryz.func123, Tryz.ntmps123
  go_wp2
  go_ret
  refine ⟨?_, rfl⟩
  show Ending.returned (Value.bool (bits .and .i64 ((y : Int) / 2 ^ q) 1 == 1)) = _
  rw [HB.out]
  congr 2
  rw [Bool.eq_iff_iff, beq_iff_eq, beq_iff_eq]
  omega

def updN (f : Nat → Nat) (k v j : Nat) : Nat := if j = k then v else f j
def rowN (w : World) (b t n : Nat) (Y : Nat → Nat) : Prop := w.rowIs b t n fun j => .int .i64 (Y j : Nat)
theorem set_natH {w : World} {b t n : Nat} {f : Nat → Nat} (h : rowN w b t n f) (i v : Nat) : rowN (w.setCell ⟨b, i, none⟩ (.int .i64 v)) b t n (updN f i v) := by
  refine (h.set i _).congr fun j _ => ?_
  unfold updN
  by_cases e : j = i
  · simp only [if_pos e]
  · simp only [if_neg e]
theorem grown2 {w w1 w2 : World} {b : Nat} (h : w.grownBy w1 (some b)) (h2 : w1.grownBy w2 (some b)) : w.grownBy w2 (some b) :=
  ⟨h2.os.trans h.os, h2.tape.trans h.tape, h2.output.trans h.output, Nat.le_trans h.size h2.size, fun k hk he => (h2.block k (Nat.lt_of_lt_of_le hk h.size) he).trans (h.block k hk he)⟩
theorem grown1 {w w1 w2 : World} {b : Nat} (h : w.grownBy w1 (some b)) (h2 : w1.grownBy w2 none) : w.grownBy w2 (some b) :=
  ⟨h2.os.trans h.os, h2.tape.trans h.tape, h2.output.trans h.output, Nat.le_trans h.size h2.size, fun k hk he => (h2.block k (Nat.lt_of_lt_of_le hk h.size) (by simp)).trans (h.block k hk he)⟩
/-- One step of the turn. -/
def stepH (q : Nat) (Y : Nat → Nat) (k : Nat) : Nat → Nat :=
  bif bitN (Y k) q == 1 then updN Y 0 (Y 0 ^^^ (2 ^ q - 1))
  else updN (updN Y 0 (Y 0 ^^^ ((Y 0 ^^^ Y k) &&& (2 ^ q - 1)))) k (updN Y 0 (Y 0 ^^^ ((Y 0 ^^^ Y k) &&& (2 ^ q - 1))) k ^^^ ((Y 0 ^^^ Y k) &&& (2 ^ q - 1)))
def turnTo (q : Nat) (Y : Nat → Nat) : Nat → Nat → Nat
  | 0 => Y
  | k + 1 => stepH q (turnTo q Y k) k
theorem updN_lt {f : Nat → Nat} {k v B : Nat} {n : Nat} (h : ∀ j, j < n → f j < B) (hv : v < B) : ∀ j, j < n → updN f k v j < B := fun j hj => by
  unfold updN; split
  · exact hv
  · exact h j hj
theorem low_lt {q : Nat} (hq : q < 62) : 2 ^ q - 1 < 2 ^ 62 := Nat.lt_of_lt_of_le (Nat.sub_lt (Nat.two_pow_pos q) (by decide)) (Nat.pow_le_pow_right (by decide) (by omega))
theorem stepT_lt {q n k : Nat} {Y : Nat → Nat} (hq : q < 62) (hn : 1 ≤ n) (hk : k < n) (h : ∀ j, j < n → Y j < 2 ^ 62) : ∀ j, j < n → stepH q Y k j < 2 ^ 62 := by
  have h0 := h 0 (by omega)
  have hd : (Y 0 ^^^ Y k) &&& (2 ^ q - 1) < 2 ^ 62 := Nat.and_lt_two_pow _ (low_lt hq)
  unfold stepH
  cases bitN (Y k) q == 1
  · have h1 := updN_lt (k := 0) h (Nat.xor_lt_two_pow h0 hd)
    exact updN_lt h1 (Nat.xor_lt_two_pow (h1 k hk) hd)
  · exact updN_lt h (Nat.xor_lt_two_pow h0 (low_lt hq))
theorem turnTo_lt {q n : Nat} {Y : Nat → Nat} (hq : q < 62) (hn : 1 ≤ n) (h : ∀ j, j < n → Y j < 2 ^ 62) : ∀ k, k ≤ n → ∀ j, j < n → turnTo q Y k j < 2 ^ 62 := by
  intro k
  induction k with
  | zero => exact fun _ => h
  | succ k ih => exact fun hk => stepT_lt hq hn (by omega) (ih (by omega))

set_option maxRecDepth 100000 in
set_option maxHeartbeats 2000000 in
theorem s_turn (w : World) (b T N n c q : Nat) (Y : Nat → Nat) (h : rowN w b T N Y) (hn : 1 ≤ n) (hN : n ≤ N) (hN2 : N ≤ 1000) (hY : ∀ j, j < n → Y j < 2 ^ 62) (hq : q < 62) :
    Calls Tryz.prog 122 #[.slice (some ⟨b, 0, none⟩) n c, .int .i64 q] w fun e w' => e = .returned (.tuple #[]) ∧ rowN w' b T N (turnTo q Y n) ∧ w.grownBy w' (some b) := by
  have HT := Lib.hid (turnTo_lt hq hn hY)
  have HH := Lib.hid (fun W y hy => s_hasBit W y q hy hq)
  have hlow := low_lt hq
  clear hY
  have hp1 : 1 ≤ 2 ^ q := Nat.two_pow_pos q
  have hp2 : 2 ^ q < 4611686018427387904 := by rw [← p62]; exact Nat.pow_lt_pow_right (by decide) hq
  have hpc : ((2 ^ q : Nat) : Int) = 2 ^ q := Int.natCast_pow 2 q
  have hw1 : wrap64 (2 ^ q) = 2 ^ q := by rw [← hpc]; unfold wrap64; omega
  have hw2 : wrap64 (2 ^ q - 1) = ((2 ^ q - 1 : Nat) : Int) := by rw [← hpc]; unfold wrap64; omega
  clear hpc hp1 hp2
  have HS : Hid (∀ Z k, stepH q Z k = bif bitN (Z k) q == 1 then updN Z 0 (Z 0 ^^^ (2 ^ q - 1)) else updN (updN Z 0 (Z 0 ^^^ ((Z 0 ^^^ Z k) &&& (2 ^ q - 1)))) k (updN Z 0 (Z 0 ^^^ ((Z 0 ^^^ Z k) &&& (2 ^ q - 1))) k ^^^ ((Z 0 ^^^ Z k) &&& (2 ^ q - 1)))) := fun _ _ => rfl
  generalize 2 ^ q - 1 = low at *
  go_enter Tryz.func122, Tryz.ntmps122
  go_wp2
  rw [hw1, hw2]
  go_loopw [5, 6, 12] (fun _ _ i wr => ∃ k : Nat, k ≤ n ∧ i = .int .i64 k ∧ rowN wr b T N (turnTo q Y k) ∧ Hid (w.grownBy wr (some b))) (fun _ _ i _ => n - (intOf i).toNat)
  case atStart => exact ⟨0, Nat.zero_le _, rfl, h, ⟨rfl, rfl, rfl, Nat.le_refl _, fun _ _ _ => rfl⟩⟩
  case round =>
    obtain ⟨k, hk, rfl, hr, HG⟩ := hrel
    by_cases hlt : k < n
    · have hl0 := HT.out k hk 0 (by omega)
      have hlk := HT.out k hk k hlt
      have HR : Hid (turnTo q Y (k + 1) = stepH q (turnTo q Y k) k) := rfl
      rw [HS.out] at HR
      have HT2 := Lib.hid (HT.out k hk)
      generalize turnTo q Y k = Z at *
      have c0 := hr.cell (i := 0) (by omega)
      have ck := hr.cell (i := k) (by omega)
      have z0 := hr.frozen 0
      have zk := hr.frozen k
      cases hb : bitN (Z k) q == 1
      · rw [hb] at HR
        have hx := xor_i hl0 hlk
        have hd : (Z 0 ^^^ Z k) &&& low < 2 ^ 62 := Nat.and_lt_two_pow _ hlow
        have ha := and_i (Nat.xor_lt_two_pow hl0 hlk) hlow
        have hx0 := xor_i hl0 hd
        go_wp2_with (first | (go_at_call 123; refine (HH.out _ _ hlk).mono ?_; rintro e w1 ⟨rfl, rfl⟩; rw [hb]))
        go_quiet (fail)
        have hr2 : rowN (w1.drewN nq) b T N Z := hr
        have HG2 : Hid (w.grownBy (w1.drewN nq) (some b)) := grown1 HG.out (grown_drewN w1 nq)
        clear c0 ck z0 zk hr HG
        generalize w1.drewN nq = w2 at *
        have c0 := hr2.cell (i := 0) (by omega)
        have z0 := hr2.frozen 0
        have HR2 : Hid (turnTo q Y (k + 1) = updN (updN Z 0 (Z 0 ^^^ ((Z 0 ^^^ Z k) &&& low))) k (updN Z 0 (Z 0 ^^^ ((Z 0 ^^^ Z k) &&& low)) k ^^^ ((Z 0 ^^^ Z k) &&& low))) := HR.out
        clear HR ha hx
        generalize (Z 0 ^^^ Z k) &&& low = D at *
        have hr3 := set_natH hr2 0 (Z 0 ^^^ D)
        have c3 := hr3.cell (i := k) (by omega)
        have z3 := hr3.frozen k
        have hV : updN Z 0 (Z 0 ^^^ D) k < 2 ^ 62 := updN_lt (n := n) (fun j hj => by
          by_cases e : j = 0
          · rw [e]; exact hl0
          · exact HT2.out j hj) (Nat.xor_lt_two_pow hl0 hd) k hlt
        have hx3 := xor_i hV hd
        have HG3 : Hid (w.grownBy (w2.setCell ⟨b, 0, none⟩ (.int .i64 ((Z 0 ^^^ D : Nat) : Int))) (some b)) := grown2 HG2.out (grown_set _ b 0 _)
        go_wp2_with fail
        exact ⟨⟨k + 1, by omega, by go_num, by rw [HR2.out]; exact set_natH hr3 k _, grown2 HG3.out (grown_set _ b k _)⟩, by simp [intOf]; omega⟩
      · rw [hb] at HR
        have hx := xor_i hl0 hlow
        go_wp2_with (first | (go_at_call 123; refine (HH.out _ _ hlk).mono ?_; rintro e w1 ⟨rfl, rfl⟩; rw [hb]))
        exact ⟨⟨k + 1, by omega, by go_num, by rw [HR.out]; exact set_natH hr 0 _, grown2 HG.out (grown_set _ b 0 _)⟩, by simp [intOf]; omega⟩
    · obtain rfl : k = n := by omega
      go_wp2
      go_end0
      exact ⟨rfl, hr, HG.out⟩
end Go.Proofs.YtogmbehomilalaaGreatDoor
end

/- The bits of several numbers, interleaved. -/
section
namespace Go.Proofs.YtogmbehomilalaaGreatDoor
open Go Go.RowKit Go.Deep

/-- The digits of the first k numbers' bits q, behind a key. -/
def intl (Y : Nat → Nat) (q key : Nat) : Nat → Nat
  | 0 => key
  | k + 1 => 2 * intl Y q key k + bitN (Y k) q
/-- .. for the bits below w, the highest first. -/
def intlW (Y : Nat → Nat) (n : Nat) : Nat → Nat → Nat
  | 0, key => key
  | q + 1, key => intlW Y n q (intl Y q key n)
theorem bitN_lt (y q : Nat) : bitN y q < 2 := Nat.mod_lt _ (by decide)
theorem intl_lt {Y : Nat → Nat} {q key e : Nat} (h : key < 2 ^ e) : ∀ k, intl Y q key k < 2 ^ (e + k) := by
  intro k
  induction k with
  | zero => exact h
  | succ k ih =>
    have := bitN_lt (Y k) q
    rw [intl, ← Nat.add_assoc, Nat.pow_succ]
    omega
theorem or_bit {x b : Nat} (hb : b < 2) : (2 * x) ||| b = 2 * x + b := by
  rcases (by omega : b = 0 ∨ b = 1) with rfl | rfl
  · simp
  · have := Nat.two_pow_add_eq_or_of_lt (i := 1) (b := 1) (by decide) x
    rw [Nat.pow_one] at this
    exact this.symm

set_option maxRecDepth 100000 in
set_option maxHeartbeats 2000000 in
theorem s_interleaved (w : World) (b T N n c wd : Nat) (Y : Nat → Nat) (h : rowN w b T N Y) (hN : n ≤ N) (hN2 : N ≤ 1000) (hY : ∀ j, j < n → Y j < 2 ^ 62) (hw : n * wd ≤ 60) (hw2 : wd ≤ 60) :
    Calls Tryz.prog 124 #[.slice (some ⟨b, 0, none⟩) n c, .int .i64 wd] w fun e w' => e = .returned (.int .i64 (intlW Y n wd 0 : Nat)) ∧ ∃ k, w' = w.drewN k := by
  have HY := Lib.hid hY
  clear hY
  go_enter Tryz.func124, Tryz.ntmps124
  go_wp2
  go_loopw [5, 6] (fun ky q wr => ∃ (p key r : Nat), p ≤ wd ∧ ky = .int .i64 (key : Nat) ∧ q = .int .i64 ((p : Int) - 1) ∧ Hid (intlW Y n p key = intlW Y n wd 0) ∧ Hid (key < 2 ^ (n * (wd - p))) ∧ wr = w.drewN r) (fun _ q _ => (intOf q + 1).toNat)
  case atStart => exact ⟨wd, 0, 0, Nat.le_refl _, rfl, rfl, rfl, by show 0 < _; exact Nat.two_pow_pos _, rfl⟩
  case round =>
    obtain ⟨p, key, r, hp, rfl, rfl, HK, HL, rfl⟩ := hrel
    by_cases h0 : p = 0
    · subst h0
      have HK2 : Hid (key = intlW Y n wd 0) := HK.out
      go_wp2
      go_ret
      exact ⟨by rw [← HK2.out]; rfl, _, rfl⟩
    · obtain ⟨q, rfl⟩ : ∃ q, p = q + 1 := ⟨p - 1, by omega⟩
      rw [show (((q + 1 : Nat) : Int) - 1) = q by omega]
      have he1 : n * (wd - q) = n * (wd - (q + 1)) + n := by rw [show wd - q = (wd - (q + 1)) + 1 by omega, Nat.mul_succ]
      have he2 : n * (wd - q) ≤ n * wd := Nat.mul_le_mul_left n (by omega)
      have HX := Lib.hid (fun k => intl_lt (Y := Y) (q := q) HL.out k)
      have HK2 : Hid (intlW Y n q (intl Y q key n) = intlW Y n wd 0) := HK.out
      have HL2 : Hid (intl Y q key n < 2 ^ (n * (wd - q))) := by show _ < _; rw [he1]; exact HX.out n
      generalize n * (wd - (q + 1)) = e0 at *
      clear HK
      obtain ⟨w1, hw1⟩ : ∃ w1, w1 = w.drewN r := ⟨_, rfl⟩
      have HW := Lib.hid hw1
      have h1 : rowN w1 b T N Y := by rw [hw1]; exact h
      rw [← hw1]
      clear hw1
      go_wp2
      go_loopw [5, 8, 17] (fun ky _ i wr => ∃ k : Nat, k ≤ n ∧ ky = .int .i64 (intl Y q key k : Nat) ∧ i = .int .i64 k ∧ wr = w1) (fun _ _ i _ => n - (intOf i).toNat)
      case atStart => exact ⟨0, Nat.zero_le _, rfl, rfl, rfl⟩
      case round =>
        obtain ⟨k, hk, rfl, rfl, rfl⟩ := hrel
        by_cases hlt : k < n
        · have hc := h1.cell (i := k) (by omega)
          have hb := bit_i (y := Y k) (q := q) (HY.out k hlt)
          have hbl := bitN_lt (Y k) q
          have hkl := HX.out k
          have hk2 : intl Y q key k < 1152921504606846976 := Nat.lt_of_lt_of_le hkl (Nat.le_trans (Nat.pow_le_pow_right (by decide) (by omega : e0 + k ≤ 60)) (by decide))
          have HR : Hid (intl Y q key (k + 1) = 2 * intl Y q key k + bitN (Y k) q) := rfl
          clear hkl
          generalize intl Y q key k = z at *
          generalize hbe : bitN (Y k) q = bt at *
          have HO : Hid (bits .or .i64 ((2 * z : Nat) : Int) ((bt : Nat) : Int) = ((2 * z + bt : Nat) : Int)) := by
            show _ = _
            rw [or_i (by rw [p62]; omega) (by rw [p62]; omega), or_bit hbl]
          have hy := HY.out k hlt
          rw [p62] at hy
          generalize Y k = y at *
          clear hbe
          go_wp2_with fail
          have hz : ((z : Int) * 2) = ((2 * z : Nat) : Int) := by omega
          exact ⟨⟨k + 1, by omega, by rw [hz, HO.out, HR.out], by go_num, trivial⟩, by simp [intOf]; omega⟩
        · obtain rfl : k = n := by omega
          go_wp2_with fail
          exact ⟨⟨q, intl Y q key k, r, by omega, rfl, rfl, HK2.out, HL2.out, HW.out⟩, by simp [intOf]⟩
end Go.Proofs.YtogmbehomilalaaGreatDoor
end
