/- Cells in the order of their coordinates. -/
import Derived.Test.YtogmbehomilalaaGreatDoorZVaC
import Derived.Test.YtogmbehomilalaaGreatDoorZRgC
import Derived.Test.YtogmbehomilalaaGreatDoorZSrC
import Derived.Test.YtogmbehomilalaaGreatDoorZSmA
import Derived.Test.YtogmbehomilalaaGreatDoorZCop
namespace Go.Proofs.YtogmbehomilalaaGreatDoor
open Go Go.RowKit Go.Deep Go.Shelf Go.Sort
attribute [local go_sem] Oper.semAt_some

theorem info_keyC : (Tryz.prog.info? 131).map (fun i => (i.zero, i.size, i.bytes)) = some (some (.agg #[.slice none 0 0, .slice none 0 0, .slice none 0 0]), 3, 72) := by kernel_rfl
/-- The pairs' cells. -/
def pairK (p q : Nat → Value) (k : Nat) : List Value := (List.range k).flatMap fun t => [p t, p t, q t]
theorem pairK_succ (p q : Nat → Value) (k : Nat) : pairK p q (k + 1) = pairK p q k ++ [p k, p k, q k] := by
  unfold pairK
  rw [List.range_succ, List.flatMap_append]
  simp
theorem pairK_len (p q : Nat → Value) (N : Nat) : (pairK p q N).length = N * 3 := by
  induction N with
  | zero => rfl
  | succ n ih => rw [pairK_succ, List.length_append, ih]; simp; omega
theorem pairK_get (p q : Nat → Value) (N j : Nat) (hj : j < N) : (pairK p q N)[j * 3]? = some (p j) ∧ (pairK p q N)[j * 3 + 1]? = some (p j) ∧ (pairK p q N)[j * 3 + 2]? = some (q j) := by
  induction N with
  | zero => omega
  | succ n ih =>
    rw [pairK_succ]
    by_cases e : j = n
    · subst e
      rw [List.getElem?_append_right (by rw [pairK_len]; omega), List.getElem?_append_right (by rw [pairK_len]; omega), List.getElem?_append_right (by rw [pairK_len]; omega), pairK_len]
      refine ⟨?_, ?_, ?_⟩
      · rw [show j * 3 - j * 3 = 0 by omega]; rfl
      · rw [show j * 3 + 1 - j * 3 = 1 by omega]; rfl
      · rw [show j * 3 + 2 - j * 3 = 2 by omega]; rfl
    · rw [List.getElem?_append_left (by rw [pairK_len]; omega), List.getElem?_append_left (by rw [pairK_len]; omega), List.getElem?_append_left (by rw [pairK_len]; omega)]
      exact ih (by omega)
theorem own_cellK {W : World} {base e : Nat} {v : Value} {p q : Nat → Value} {N : Nat} (h : W.ownsRow base e 3 v N (pairK p q N)) (hN : 1 ≤ N) :
    ∃ b cap cur, v = .slice (some ⟨b, 0, none⟩) N cap ∧ base ≤ b ∧ W.heap[b]? = some (.cells cur e (0, 0)) ∧ ∀ j, j < N → W.cell? ⟨b, j * 3, none⟩ = some (p j) ∧ W.cell? ⟨b, j * 3 + 1, none⟩ = some (p j) ∧ W.cell? ⟨b, j * 3 + 2, none⟩ = some (q j) := by
  rcases h.2 with ⟨_, h0⟩ | ⟨g, cap, cur, h1, h2, h3, h4, h5, h6, h7⟩
  · omega
  · refine ⟨g, cap, cur, h1, h2, h3, fun j hj => ?_⟩
    obtain ⟨a1, a2, a3⟩ := pairK_get p q N j hj
    have get : ∀ i, i < N * 3 → cur[i]? = (pairK p q N)[i]? := fun i hi => by
      rw [← h7, List.getElem?_take, if_pos hi, Array.getElem?_toList]
    rw [cell_of_row _ _ _ _ _ _ h3, cell_of_row _ _ _ _ _ _ h3, cell_of_row _ _ _ _ _ _ h3, get _ (by omega), get _ (by omega), get _ (by omega)]
    exact ⟨a1, a2, a3⟩
set_option maxRecDepth 100000 in
theorem c_at (W : World) (P Q : Option Addr) (n c m d : Nat) : Calls Tryz.prog 39 #[.agg #[.slice P n c, .slice Q m d]] W fun e w' => e = .returned (.slice P n c) ∧ Below W.heap.size W w' := by
  have hb : Below W.heap.size W (W.alloc (.cells #[.slice P n c, .slice Q m d] 38)) := (Below.refl _ _).alloc (Nat.le_refl _) _
  have e0 := heap_alloc_new W (.cells #[.slice P n c, .slice Q m d] 38)
  have a0 : (W.alloc (.cells #[.slice P n c, .slice Q m d] 38)).cell? ⟨W.heap.size, 0, none⟩ = some (.slice P n c) := by rw [cell_of_row _ _ _ _ _ _ e0]; rfl
  clear e0
  go_enter Tryz.func39, Tryz.ntmps39
  go_wp2
  go_ret
  exact ⟨rfl, by first | exact hb | exact Below.refl _ _⟩
abbrev atF : Value := .func (.func 39) #[] #[]
abbrev comF : Value := .func (.func 40) #[] #[]
abbrev celF (Bs : Nat) : Value := .func (.func 80) #[] #[.pointer (some ⟨Bs, 0, none⟩)]
/-- What is kept between the rounds. -/
def SoAt (w : World) (p q : Nat → Value) (k : Nat) (W : World) : Prop :=
  (∃ v, Boxed W (w.heap.size + 1 + 1) 129 v ∧ W.ownsRow (w.heap.size + 1 + 1 + 1) 131 3 v k (pairK p q k)) ∧ Boxed W w.heap.size 84 atF ∧ Boxed W (w.heap.size + 1) 76 comF ∧ Below w.heap.size w W
theorem so_steps (w : World) (p q : Nat → Value) (B : Nat) (hB : w.heap.size ≤ B) : OwnFrom B (fun k W => SoAt w p q k W) := by
  rintro k W W' row ⟨⟨v, h1, h2⟩, h3, h4, h5⟩ hg hr
  have hne : ∀ {B : Nat} {t : TypeId} {v : Value}, Boxed W B t v → some B ≠ row := fun {B t v} h e => by
    obtain ⟨_, o, ho, hc⟩ := hr B e.symm
    rw [show W.heap[B]? = _ from h] at ho; cases ho; cases hc
  exact ⟨⟨v, h1.kept hg (hne h1), h2.kept hg (own_ne h2 fun r e => .inr (hr r e).2)⟩, h3.kept hg (hne h3), h4.kept hg (hne h4), h5.grown hg h5.size (fun r e => by have := (hr r e).1; omega)⟩
set_option maxRecDepth 100000 in
set_option maxHeartbeats 4000000 in
theorem c_sortedC (w : World) (Bs : Nat) (A : Option Addr) (N cap n : Nat) (f : Nat → Nat → Int) (p q : Nat → Value) (hN1 : 1 ≤ N) (hN : N ≤ 1000000) (hn1 : 1 ≤ n) (hn : n ≤ 1000000) (hR : ∀ W, Below w.heap.size w W → ReadsCel Bs A N cap p q W)
    (hps : ∀ t, ∃ P c X m d, p t = .slice P n c ∧ q t = .slice X m d ∧ IntsAt w P n (f t)) :
    Calls Tryz.prog 37 #[celF Bs, atF, comF] w fun e w' => ∃ b, e = .returned (.slice (some ⟨b, 0, none⟩) N N) ∧ w.heap.size ≤ b ∧ (∀ j, j < N → w'.cell? ⟨b, j * 2, none⟩ = some (p ((numR n f N)[j]!)) ∧ w'.cell? ⟨b, j * 2 + 1, none⟩ = some (q ((numR n f N)[j]!))) ∧ Below w.heap.size w w' := by
  refine (callsIn_wide (n := 3)).1 ?_
  refine callsIn_of_wp_marks Tryz.func37 rfl trivial ?_ rfl
  simp only [Tryz.ntmps37, List.size_toArray, List.length_cons, List.length_nil, Nat.reduceAdd, Nat.reduceSub, Array.replicate_succ, Array.replicate_zero, List.push_toArray, List.append_toArray, List.nil_append, List.cons_append]
  have HR := Lib.hid hR
  have HP := Lib.hid hps
  clear hR hps
  obtain ⟨i0, hi, hz0, hz1, hz2⟩ := info_parts info_keyC
  have hmk := run_make_cel N hN
  gi_wp2
  have b0 := Boxed.new w 84 atF
  have b1 := Boxed.new (w.alloc (.cells #[atF] 84)) 76 comF
  have b2 := Boxed.new ((w.alloc (.cells #[atF] 84)).alloc (.cells #[comF] 76)) 129 (.slice none 0 0)
  have c0 := (b0.alloc (.cells #[comF] 76)).alloc (.cells #[.slice none 0 0] 129)
  have c1 := b1.alloc (.cells #[.slice none 0 0] 129)
  have hbl : Below w.heap.size w (((w.alloc (.cells #[atF] 84)).alloc (.cells #[comF] 76)).alloc (.cells #[.slice none 0 0] 129)) := (((Below.refl _ _).alloc (Nat.le_refl _) _).alloc (by simp) _).alloc (by simp; omega) _
  have hsz : (((w.alloc (.cells #[atF] 84)).alloc (.cells #[comF] 76)).alloc (.cells #[.slice none 0 0] 129)).heap.size = w.heap.size + 1 + 1 + 1 := by simp
  rw [World.size_alloc] at c1
  rw [World.size_alloc, World.size_alloc] at b2
  clear b0 b1
  generalize ((w.alloc (.cells #[atF] 84)).alloc (.cells #[comF] 76)).alloc (.cells #[.slice none 0 0] 129) = w1 at *
  rename_i KO hKO
  refine wpIn_range_as (gf := 80) (lb := #[.pointer (some ⟨Bs, 0, none⟩)]) rfl (by omega) rfl trivial (enters_of Tryz.func80 (by kernel_rfl) rfl)
    (cells_iter Fence.wide _ trivial rfl Bs N cap A p q (fun k => by obtain ⟨P, c, X, m, d, e1, e2, _⟩ := HP.out k; exact ⟨P, n, c, X, m, d, e1, e2⟩) hN (by omega))
    (fun k args W h => by rw [h]; rfl)
    (fun k W => SoAt w p q k W) (fun _ _ => False)
    (so_steps w p q _ (by omega)) (fun c W W' row h => h.elim)
    (fun s W W' row hs hg hr => hs) (fun k W h => HR.out W h.2.2.2) ⟨⟨_, b2, ⟨rfl, .inl ⟨rfl, rfl⟩⟩⟩, c0, c1, hbl⟩
    (fun args => .cells (args.getD 0 undef).cells 38 (0, 0))
    (fun args B => { tmps := #[celF Bs, atF, comF, undef, .pointer (some ⟨w.heap.size, 0, none⟩), .pointer (some ⟨w.heap.size + 1, 0, none⟩), .slice none 0 0, .pointer (some ⟨w.heap.size + 1 + 1, 0, none⟩), .pointer (some ⟨B, 0, none⟩), undef, undef, undef, celF Bs, args.getD 0 undef, undef, undef, undef, undef, undef, undef, undef, undef, undef, undef, undef, undef, undef, undef, undef, undef, undef, undef, undef, undef, undef, undef, undef, undef, undef, undef, undef, undef], defers := [] }) ?assign ?body ?done ?stop
  case assign =>
    rintro l k args W K rfl hK
    obtain ⟨P, c, X, m, d, e1, e2, _⟩ := HP.out k
    rw [e1, e2] at hK ⊢
    gi_wp2
    exact hK
  case body =>
    rintro l k args B W hk ⟨⟨sv, h1, h2⟩, h4, h5, h6⟩ rfl hBw hob
    obtain ⟨vp, vc, up, un, uc, e1, e2, -⟩ := HP.out k
    have hob' : W.heap[B]? = some (.cells #[.slice vp n vc, .slice up un uc] 38 (0, 0)) := by rw [← e1, ← e2]; exact hob
    obtain ⟨sp, sn, sc, rfl⟩ := own_shape h2
    have H2 := Lib.hid h2
    have hbw := h6.size
    have hBl : B < W.heap.size := (Array.getElem?_eq_some_iff.1 hob').1
    have HOB := Lib.hid hob'
    have HE := Lib.hid (And.intro e1 e2)
    rw [e1, e2]
    clear hob hob' e1 e2
    gi_wp2
    refine RC.r_pairs (B4 := w.heap.size) (Bp := w.heap.size + 1 + 1) (Bx := B) (sp := sp) (sn := sn) (sc := sc) (g := 39) (vp := vp) (vn := n) (vc := vc) (up := up) (un := un) (uc := uc) rfl rfl rfl (dag_of (by kernel_rfl)) (by kernel_rfl) (by kernel_rfl) (by kernel_rfl) rfl rfl rfl rfl rfl rfl rfl rfl rfl rfl rfl rfl (by kernel_rfl) (by kernel_rfl) rfl rfl rfl rfl rfl rfl (by kernel_rfl) (by kernel_rfl) rfl rfl rfl (by kernel_rfl) rfl rfl rfl (by kernel_rfl) (by kernel_rfl) rfl rfl rfl (by kernel_rfl) rfl rfl rfl
      (fun W' hW => by
        have hb := (hW.block B hBl).trans HOB.out
        exact ⟨by rw [cell_of_row _ _ _ _ _ _ hb]; rfl, by rw [cell_of_row _ _ _ _ _ _ hb]; rfl⟩)
      (fun W' hW => (h1.kept (grown_below hW) (by simp)).cell) (fun W' hW => (h4.kept (grown_below hW) (by simp)).cell) (enters_of Tryz.func39 (by kernel_rfl) rfl)
      (fun W' _ => c_at W' vp up n vc un uc) ?_
    intro W' b ty hW hb
    have hown := H2.out.kept (grown_below hW) (own_ne H2.out fun r e => by cases e)
    have hcs : ∀ j u, [Value.slice vp n vc, .slice vp n vc, .slice up un uc][j]? = some u → W'.cell? ((⟨b, 0, none⟩ : Addr).add j) = some u := fun j u hj => by
      rw [Addr.add_lit, Nat.zero_add]
      match j, hj with
      | 0, hj => cases hj; rw [cell_of_row _ _ _ _ _ _ hb]; rfl
      | 1, hj => cases hj; rw [cell_of_row _ _ _ _ _ _ hb]; rfl
      | 2, hj => cases hj; rw [cell_of_row _ _ _ _ _ _ hb]; rfl
    have hone : ∀ u ∈ [Value.slice vp n vc, .slice vp n vc, .slice up un uc], u.oneCell' = true := fun u hu => by
      simp only [List.mem_cons, List.not_mem_nil, or_false] at hu
      rcases hu with rfl | rfl | rfl <;> rfl
    obtain ⟨v', w', hrun, hown', hgrow, -⟩ := run_append_own (P := Tryz.prog) (w := W') (w.heap.size + 1 + 1 + 1) 129 ty 131 i0 _ 3 72 Tryz.underlying129 hi hz0 hz1 hz2 rfl (by decide) _ _ _ hown ⟨b, 0, none⟩ 1 1 _ rfl hcs hone (by unfold maxLen; omega) (by omega) (by have := hW.size; omega)
    obtain ⟨p', n', c', rfl⟩ := own_shape hown'
    have B1 := h1.kept (grown_below hW) (by simp)
    have B4 := h4.kept (grown_below hW) (by simp)
    have B5 := h5.kept (grown_below hW) (by simp)
    have nb : ∀ {B : Nat} {t : TypeId} {u : Value}, Boxed W' B t u → t ≠ 131 → some B ≠ (Value.slice sp sn sc).ownBlock := fun h ht => h.not_row ht hown
    have C1 := B1.kept hgrow (nb B1 (by decide))
    have C4 := B4.kept hgrow (nb B4 (by decide))
    have C5 := B5.kept hgrow (nb B5 (by decide))
    have gs := grownBy_setCell' w' (w.heap.size + 1 + 1) (.slice p' n' c')
    refine ⟨p', n', c', w', hrun, ⟨_, C1.cell⟩, C1.frozen, fun a => ?_⟩
    have hkeep : KeepsOthers W (w'.setCell ⟨w.heap.size + 1 + 1, 0, none⟩ (.slice p' n' c')) := ((keeps_below hW).trans (KeepsOthers.of_grownBy hgrow fun j o ej hj => by
      obtain ⟨_, cs, h⟩ := own_lt hown j ej
      rw [h] at hj; cases hj; rfl)).trans (KeepsOthers.setCell _ _ _)
    have hbel : Below w.heap.size w (w'.setCell ⟨w.heap.size + 1 + 1, 0, none⟩ (.slice p' n' c')) :=
      (((h6.trans (hW.mono (by omega))).grown hgrow (by have := hW.size; omega) (fun r e => by have := (own_lt hown r e).1; omega)).setCell (by show w.heap.size ≤ w.heap.size + 1 + 1; omega) _)
    refine ⟨hkeep, ⟨⟨.slice p' n' c', C1.set _, ?_⟩, C4.kept gs (by simp; omega), C5.kept gs (by simp), hbel⟩⟩
    rw [pairK_succ, HE.out.1, HE.out.2]
    exact hown'.kept gs (own_ne hown' fun r e => by cases e; exact .inl (by omega))
  case done =>
    rintro D W hD ⟨⟨sv, h1, h2⟩, h4, h5, h6⟩ hK
    obtain ⟨b, cap9, cur, rfl, hb1, hb2, hb3⟩ := own_cellK h2 hN1
    have hbl : b < W.heap.size := (Array.getElem?_eq_some_iff.1 hb2).1
    have hbD : D ≠ b := fun e => by rw [← e, hK] at hb2; cases hb2
    have hDl : D < W.heap.size := (Array.getElem?_eq_some_iff.1 hK).1
    have HS := Lib.hid (c_sortCells W b cap9 N (w.heap.size + 1) n f p q (fun t => by
      obtain ⟨P, c, X, m, d, e1, e2, h⟩ := HP.out t
      refine ⟨P, c, X, m, d, e1, e2, h.below h6, fun a ha => ?_⟩
      obtain ⟨b9, o9, hP9, hlt, _⟩ := h (by omega)
      rw [hP9] at ha
      injection ha with ha
      subst ha
      show b9 ≠ b
      omega) hn hN hbl (by omega) h5.cell hb3 (fun j => by simp [World.frozen?, hb2]))
    have HX : Hid (∀ W', W.grownBy W' (some b) → Boxed W' (w.heap.size + 1 + 1) 129 (.slice (some ⟨b, 0, none⟩) N cap9) ∧ Below w.heap.size w W' ∧ W'.heap[D]? = some (.deferred (some [])) ∧ b < W'.heap.size ∧ D < W'.heap.size ∧ w.heap.size ≤ W'.heap.size) := fun W' hg => by
      have hs := hg.size
      have hs6 := h6.size
      exact ⟨h1.kept hg (by simp; omega), h6.grown hg h6.size (fun r e => by cases e; omega), (hg.block D hDl (by simpa using fun e => hbD e)).trans hK, by omega, by omega, by omega⟩
    have c1 := h1.cell
    clear h1 h2 h4 h5 h6 hb2 hb3
    refine hKO _ _ (wpIn_wide.2 ?_)
    clear hKO
    go_wp2_with (first
      | (go_at_call 78; refine HS.out.mono ?_; rintro e w2 ⟨rfl, hg2, hp2⟩; obtain ⟨d1, d3, d4, d5, d6, d7⟩ := HX.out w2 hg2; have d1c := d1.cell; have d1a := (d1.alloc (.cells (madeCells #[.slice none 0 0, .slice none 0 0] (N * 2)) 38)).cell))
    have HP2 := Lib.hid hp2
    have HB0 : Hid (Below w2.heap.size w2 (w2.alloc (.cells (madeCells #[.slice none 0 0, .slice none 0 0] (N * 2)) 38))) := (Below.refl _ _).alloc (Nat.le_refl _) _
    have hrow0 := made_cel (heap_alloc_new w2 (.cells (madeCells #[.slice none 0 0, .slice none 0 0] (N * 2)) 38))
    clear hp2 HS HX
    obtain ⟨r, HRR⟩ : ∃ r : Nat → Nat, Hid (∀ j, (numR n f N)[j]! = r j) := ⟨fun j => (numR n f N)[j]!, fun _ => rfl⟩
    go_loopw [10, 11, 30] (fun _ _ i wr => ∃ (k : Nat) (g : Nat → Value), k ≤ N ∧ i = .int .i64 k ∧ wr.rowIs w2.heap.size 38 (N * 2) (fun j => g j) ∧ Hid (∀ j, j < k → g (j * 2) = p (r j) ∧ g (j * 2 + 1) = q (r j)) ∧ Hid (Below w2.heap.size w2 wr)) (fun _ _ i _ => N - (intOf i).toNat)
    case atStart => exact ⟨0, fun _ => .slice none 0 0, Nat.zero_le _, rfl, hrow0, fun j hj => absurd hj (by omega), HB0.out⟩
    case round =>
      obtain ⟨k, g, hk, rfl, hrow, HV, HBw⟩ := hrel
      have hsz : w2.heap.size < wr.heap.size := hrow.lt
      by_cases hlt : k < N
      · obtain ⟨x0, x1, x2⟩ := HP2.out k hlt
        rw [HRR.out k] at x0 x1 x2
        obtain ⟨P, c, X, m, d, e1, e2, -⟩ := HP.out (r k)
        have HE := Lib.hid (And.intro e1 e2)
        rw [e1] at x0 x1
        rw [e2] at x2
        rw [← HBw.out.cell (p := ⟨b, k * 3, none⟩) d5] at x0
        rw [← HBw.out.cell (p := ⟨b, k * 3 + 1, none⟩) d5] at x1
        rw [← HBw.out.cell (p := ⟨b, k * 3 + 2, none⟩) d5] at x2
        have hS0 := hrow.cell (i := k * 2) (by omega)
        have hS1 := hrow.cell (i := k * 2 + 1) (by omega)
        have hZ0 := hrow.frozen (k * 2)
        have hZ1 := hrow.frozen (k * 2 + 1)
        have hbr : b < wr.heap.size := by omega
        clear e1 e2
        go_wp2_with fail
        go_roundw
        case rel =>
          refine ⟨k + 1, fun j => if j = k * 2 + 1 then .slice X m d else if j = k * 2 then .slice P n c else g j, by omega, by go_num, ((hrow.set _ _).set _ _).alloc _, fun j hj => ?_, ((Below.setCell HBw.out (Nat.le_refl _) _).setCell (p := ⟨w2.heap.size, k * 2 + 1, none⟩) (Nat.le_refl _) _).alloc (by have := HBw.out.size; simpa using this) _⟩
          dsimp only
          by_cases e : j = k
          · subst e
            rw [if_neg (by omega), if_pos rfl, if_pos rfl]
            exact ⟨HE.out.1.symm, HE.out.2.symm⟩
          · rw [if_neg (by omega), if_neg (by omega), if_neg (by omega), if_neg (by omega)]
            exact HV.out j (by omega)
        case measure => simp [intOf]; omega
      · obtain rfl : k = N := by omega
        go_wp2
        have hKr : wr.heap[D]? = some (.deferred (some [])) := (HBw.out.block D d6).trans d4
        have hbl := d3.trans (HBw.out.mono d7)
        refine ⟨by simp, .inl ⟨_, _, rfl, run_takeDeferred hKr, ?_⟩⟩
        refine ⟨.slice (some ⟨w2.heap.size, 0, none⟩) k k, by simp [results, Tryz.results37, go_sem], w2.heap.size, rfl, by omega, fun j hj => ?_, hbl.trans (belowK_b (w := w) (Nat.le_refl _) wr D _ _ (by omega) hKr rfl rfl)⟩
        have hrow2 := hrow.of_block (World.putObj_heap_other (by omega) : (wr.putObj D (.deferred none)).heap[w2.heap.size]? = _)
        rw [hrow2.cell (by omega), hrow2.cell (by omega), (HV.out j hj).1, (HV.out j hj).2, HRR.out j]
        exact ⟨rfl, rfl⟩
  case stop => exact fun D c W hD h => h.elim
end Go.Proofs.YtogmbehomilalaaGreatDoor
