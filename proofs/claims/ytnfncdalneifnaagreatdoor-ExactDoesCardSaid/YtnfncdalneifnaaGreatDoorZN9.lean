/- Numbers of the reference: slices of digits to the base 10^9; their reading, and appending to a row of one's own. -/
import Derived.Test.YtnfncdalneifnaaGreatDoorZPlus
import Derived.Test.YtnfncdalneifnaaGreatDoorZM9
import Derived.Laws.AppendOwn
import Derived.Lib.AppendZeros

/- Numbers of the reference: slices of digits to the base 10^9; their reading, and appending to a row of one's own. -/
section
namespace Go.Proofs.YtnfncdalneifnaaGreatDoor
open Go.RowKit Go.Deep

def lenV9 (v : Value) : Nat := match v with | .slice _ n _ => n | _ => 0
abbrev U9 (x : Nat) : Value := .int .u32 (x : Int)
theorem info_u32 : (Tryz.prog.info? 148).map (fun i => (i.zero, i.size, i.bytes)) = some (some (.int .u32 0), 1, 4) := by kernel_rfl

/-- A slice of n digits, digit k being g k; its block lies below B. -/
def D9 (w : World) (B : Nat) (A : Option Addr) (n : Nat) (g : Nat → Nat) : Prop :=
  0 < n → ∃ b o, A = some ⟨b, o, none⟩ ∧ b < B ∧ ∀ k, k < n → w.cell? ⟨b, o + k, none⟩ = some (U9 (g k))
theorem D9.zero {w : World} {B : Nat} {A : Option Addr} {g : Nat → Nat} : D9 w B A 0 g := fun h => absurd h (by omega)
theorem D9.at_ {w : World} {B : Nat} {A : Option Addr} {n k : Nat} {g : Nat → Nat} (h : D9 w B A n g) (hk : k < n) :
    ∃ b o, A = some ⟨b, o, none⟩ ∧ w.cell? ⟨b, o + k, none⟩ = some (U9 (g k)) := by
  obtain ⟨b, o, h1, _, h3⟩ := h (by omega)
  exact ⟨b, o, h1, h3 k hk⟩
theorem D9.below {w w' : World} {B : Nat} {A : Option Addr} {n : Nat} {g : Nat → Nat} (h : D9 w B A n g) (hb : Below B w w') : D9 w' B A n g := fun hn => by
  obtain ⟨b, o, h1, h2, h3⟩ := h hn
  exact ⟨b, o, h1, h2, fun k hk => (hb.cell (p := ⟨b, o + k, none⟩) h2).trans (h3 k hk)⟩
theorem D9.more {w : World} {B B' : Nat} {A : Option Addr} {n : Nat} {g : Nat → Nat} (h : D9 w B A n g) (hb : B ≤ B') : D9 w B' A n g := fun hn => by
  obtain ⟨b, o, h1, h2, h3⟩ := h hn
  exact ⟨b, o, h1, by omega, h3⟩
theorem D9.drewN {w : World} {B : Nat} {A : Option Addr} {n : Nat} {g : Nat → Nat} (h : D9 w B A n g) (m : Nat) : D9 (w.drewN m) B A n g := h
theorem D9.congr {w : World} {B : Nat} {A : Option Addr} {n : Nat} {g f : Nat → Nat} (h : D9 w B A n g) (e : ∀ k, k < n → g k = f k) : D9 w B A n f := fun hn => by
  obtain ⟨b, o, h1, h2, h3⟩ := h hn
  exact ⟨b, o, h1, h2, fun k hk => by rw [h3 k hk, e k hk]⟩
theorem D9.take {w : World} {B : Nat} {A : Option Addr} {n m : Nat} {g : Nat → Nat} (h : D9 w B A n g) (e : m ≤ n) : D9 w B A m g := fun hn => by
  obtain ⟨b, o, h1, h2, h3⟩ := h (by omega)
  exact ⟨b, o, h1, h2, fun k hk => h3 k (by omega)⟩
theorem D9.row {w : World} {b t n : Nat} {f : Nat → Value} {g : Nat → Nat} (h : w.rowIs b t n f) (e : ∀ k, k < n → f k = U9 (g k)) : D9 w w.heap.size (some ⟨b, 0, none⟩) n g := fun _ =>
  ⟨b, 0, rfl, h.lt, fun k hk => by rw [Nat.zero_add, h.cell hk, e k hk]⟩

/-- A row of the call's own with n digits. -/
def Own9 (w : World) (base : Nat) (v : Value) (n : Nat) (f : Nat → Nat) : Prop :=
  ∃ xs, w.ownsRow base 148 1 v n xs ∧ ∀ k, k < n → xs[k]? = some (U9 (f k))
theorem Own9.nil (w : World) (base : Nat) (f : Nat → Nat) : Own9 w base (.slice none 0 0) 0 f := ⟨[], World.ownsRow_nil _ _ _ _, fun _ h => absurd h (by omega)⟩
theorem Own9.out {w : World} {base n : Nat} {v : Value} {f : Nat → Nat} (h : Own9 w base v n f) : ∃ A c, v = .slice A n c ∧ n ≤ c ∧ c ≤ maxLen ∧ D9 w w.heap.size A n f := by
  obtain ⟨xs, h1, h2⟩ := h
  rcases h1.2 with ⟨rfl, rfl⟩ | ⟨g, cap, cur, rfl, _, hg, hnc, hcm, _, _⟩
  · exact ⟨none, 0, rfl, Nat.le_refl _, by decide, D9.zero⟩
  · refine ⟨_, cap, rfl, hnc, hcm, fun _ => ⟨g, 0, rfl, (Array.getElem?_eq_some_iff.1 hg).1, fun k hk => ?_⟩⟩
    have h3 := h1.cells (g := g) rfl k _ (h2 k hk)
    rw [Addr.add_lit, Nat.zero_add] at h3
    rw [Nat.zero_add]
    exact h3
theorem Own9.lo {w : World} {base n c : Nat} {A : Option Addr} {f : Nat → Nat} (h : Own9 w base (.slice A n c) n f) : ∀ a, A = some a → base ≤ a.block := by
  rintro a rfl
  obtain ⟨xs, h1, h2⟩ := h
  exact (h1.lt a.block rfl).1
theorem Own9.below {w w' : World} {base n : Nat} {v : Value} {f : Nat → Nat} (h : Own9 w base v n f) (hb : Below w.heap.size w w') : Own9 w' base v n f := by
  obtain ⟨xs, h1, h2⟩ := h
  refine ⟨xs, ⟨h1.1, ?_⟩, h2⟩
  rcases h1.2 with h3 | ⟨g, cap, cur, h3, h4, h5, h6⟩
  · exact .inl h3
  · exact .inr ⟨g, cap, cur, h3, h4, (hb.block g (Array.getElem?_eq_some_iff.1 h5).1).trans h5, h6⟩

/-- One digit more: the walk's append of a literal with one element, W being the world ahead of the literal. -/
theorem wpList_app9 {w : World} {ops : Array Oper} {rest : List Oper} {o : Oper} {a : Act} {Q : Exit → Act → World → Prop} (hgd : o.guard = none) (s x : Operand)
    (ho : o.op = .call { callee := .builtin .append, args := #[s, x], argTypes := #[62, 62] })
    (W : World) (u : Value) (d : Nat) (hw : w = W.alloc (.cells #[u] 148)) (hu : u = U9 d) (base : Nat) (v : Value) (n : Nat) (f : Nat → Nat) (hs : a.eval s = v) (hx : a.eval x = .slice (some ⟨W.heap.size, 0, none⟩) 1 1)
    (hown : Own9 W base v n f) (h63 : n < 10000000000) (hbase : base ≤ W.heap.size)
    (h : ∀ v' w', Own9 w' base v' (n + 1) (upd f n d) → Below base W w' → wpList Tryz.prog ops Q rest (a.put o.dst v') w') : wpList Tryz.prog ops Q (o :: rest) a w := by
  subst hu hw
  obtain ⟨xs, h1, h2⟩ := hown
  have h1' : (W.alloc (.cells #[U9 d] 148)).ownsRow base 148 1 v n xs := h1.alloc _
  obtain ⟨i0, hi, hii⟩ : ∃ i, Tryz.prog.info? 148 = some i ∧ (i.zero, i.size, i.bytes) = (some (.int .u32 0), 1, 4) := by
    have := info_u32
    rcases hc : Tryz.prog.info? 148 with _ | i
    · rw [hc] at this; cases this
    · rw [hc] at this; exact ⟨i, rfl, by simpa using this⟩
  simp only [Prod.mk.injEq] at hii
  have hnew : ∀ j u, [U9 d][j]? = some u → (W.alloc (.cells #[U9 d] 148)).cell? ((⟨W.heap.size, 0, none⟩ : Addr).add j) = some u := by
    intro j u hu
    have hj : j = 0 := by
      rcases j with _ | j
      · rfl
      · simp at hu
    subst hj
    have hu' : u = U9 d := by simpa using hu.symm
    subst hu'
    exact (World.rowIs_alloc W #[U9 d] 148 (fun _ => U9 d) (fun i hi => by
      have h9 : i = 0 := by simpa using hi
      subst h9
      rfl)).cell (i := 0) (by simp)
  refine wpList_append_own _ hgd s x 62 ho base 148 i0 (.int .u32 0) 1 4 Tryz.underlying62 hi hii.1 hii.2.1 hii.2.2 rfl Nat.zero_lt_one v n xs hs h1' ⟨W.heap.size, 0, none⟩ 1 1 [U9 d] hx rfl hnew
    (fun u hu => by have h9 : u = U9 d := by simpa using hu
                    subst h9; rfl) (by unfold maxLen; omega) (by omega) (by simp; omega) ?_
  intro v' w' g1 g2 _
  refine h v' w' ⟨xs ++ [U9 d], g1, fun k hk => ?_⟩ (((Below.refl base W).alloc hbase _).grown g2 (by simp; omega) fun k hk => (h1'.lt k hk).1)
  have hl : xs.length = n := by rw [h1.1, Nat.mul_one]
  by_cases hkn : k = n
  · subst hkn
    rw [upd_same, ← hl, List.getElem?_concat_length]
  · rw [upd_ne _ _ _ _ hkn, List.getElem?_append_left (by omega)]
    exact h2 k (by omega)

theorem append_none {P : Program} (w : World) (t ty e : TypeId) (i : TypeInfo) (ht : P.underlying t = some (.slice e)) (hi : P.info? e = some i) (a : Addr) (n cap c : Nat) (h : n ≤ cap) :
    (Builtin.append_ #[t, t] ty #[.slice (some a) n cap, .slice none 0 c]).run P w = .ok (.slice (some a) n cap) w := by
  simp [Builtin.append_, run_underlying ht, sizeOf, typeInfo, hi, Builtin.lenOf, Builtin.firstCells, loadCells, h, storeCells]

/-- A digit ahead of others: the walk's append of a slice to a literal with one element, W being the world ahead of the literal. -/
theorem wpList_cons9 {w : World} {ops : Array Oper} {rest : List Oper} {o : Oper} {a : Act} {Q : Exit → Act → World → Prop} (hgd : o.guard = none) (s x : Operand)
    (ho : o.op = .call { callee := .builtin .append, args := #[s, x], argTypes := #[62, 62] })
    (W : World) (u : Value) (d : Nat) (hw : w = W.alloc (.cells #[u] 148)) (hu : u = U9 d) (A : Option Addr) (m c : Nat) (g : Nat → Nat) (hs : a.eval s = .slice (some ⟨W.heap.size, 0, none⟩) 1 1) (hx : a.eval x = .slice A m c)
    (hD : D9 W W.heap.size A m g) (h63 : m < 10000000000)
    (h : ∀ v' w', Own9 w' W.heap.size v' (m + 1) (fun k => if k = 0 then d else g (k - 1)) → Below W.heap.size W w' → wpList Tryz.prog ops Q rest (a.put o.dst v') w') : wpList Tryz.prog ops Q (o :: rest) a w := by
  subst hu hw
  have h1 : (W.alloc (.cells #[U9 d] 148)).ownsRow W.heap.size 148 1 (.slice (some ⟨W.heap.size, 0, none⟩) 1 1) 1 [U9 d] :=
    ⟨rfl, .inr ⟨W.heap.size, 1, #[U9 d], rfl, Nat.le_refl _, heap_alloc_new W _, Nat.le_refl _, by decide, rfl, rfl⟩⟩
  obtain ⟨i0, hi, hii⟩ : ∃ i, Tryz.prog.info? 148 = some i ∧ (i.zero, i.size, i.bytes) = (some (.int .u32 0), 1, 4) := by
    have := info_u32
    rcases hc : Tryz.prog.info? 148 with _ | i
    · rw [hc] at this; cases this
    · rw [hc] at this; exact ⟨i, rfl, by simpa using this⟩
  simp only [Prod.mk.injEq] at hii
  have hB : Below W.heap.size W (W.alloc (.cells #[U9 d] 148)) := (Below.refl _ W).alloc (Nat.le_refl _) _
  rcases Nat.eq_zero_or_pos m with h0 | h0
  · subst h0
    rcases A with _ | A
    · refine Lib.wpList_append_run _ hgd s x 62 62 ho _ _ hs hx _ _ (append_none _ 62 _ 148 i0 Tryz.underlying62 hi _ 1 1 c (Nat.le_refl _)) ?_
      refine h _ _ ⟨_, h1, fun k hk => ?_⟩ hB
      obtain rfl : k = 0 := by omega
      rfl
    · refine wpList_append_own _ hgd s x 62 ho W.heap.size 148 i0 (.int .u32 0) 1 4 Tryz.underlying62 hi hii.1 hii.2.1 hii.2.2 rfl Nat.zero_lt_one _ 1 _ hs h1 A 0 c [] hx rfl (fun j u hj => by simp at hj)
        (fun u hu => by simp at hu) (by decide) (by decide) (by simp) ?_
      intro v' w' g1 g2 _
      refine h v' w' ⟨_, g1, fun k hk => ?_⟩ (hB.grown g2 (by simp) fun k hk => (h1.lt k hk).1)
      obtain rfl : k = 0 := by omega
      rfl
  · obtain ⟨b, o', rfl, hb, hc⟩ := hD h0
    have hlen : ((List.range m).map fun k => U9 (g k)).length = m * 1 := by simp
    refine wpList_append_own _ hgd s x 62 ho W.heap.size 148 i0 (.int .u32 0) 1 4 Tryz.underlying62 hi hii.1 hii.2.1 hii.2.2 rfl Nat.zero_lt_one _ 1 _ hs h1 ⟨b, o', none⟩ m c ((List.range m).map fun k => U9 (g k)) hx hlen
      (fun j u hj => ?_) (fun u hu => ?_) (by unfold maxLen; omega) (by omega) (by simp) ?_
    · rw [List.getElem?_map] at hj
      rcases Nat.lt_or_ge j m with hjm | hjm
      · rw [List.getElem?_range hjm] at hj
        simp only [Option.map_some, Option.some.injEq] at hj
        subst hj
        rw [Addr.add_lit]
        exact (hB.cell (p := ⟨b, o' + j, none⟩) hb).trans (hc j hjm)
      · rw [List.getElem?_eq_none (by simpa using hjm)] at hj
        simp at hj
    · simp only [List.mem_map] at hu
      obtain ⟨k, _, rfl⟩ := hu
      rfl
    · intro v' w' g1 g2 _
      rw [Nat.add_comm] at g1
      refine h v' w' ⟨_, g1, fun k hk => ?_⟩ (hB.grown g2 (by simp) fun k hk => (h1.lt k hk).1)
      rcases k with _ | k
      · rfl
      · have hkm : k < m := by omega
        show (((List.range m).map fun k => U9 (g k)))[k]? = _
        rw [List.getElem?_map, List.getElem?_range hkm]
        rfl

/-- The value v is a slice with the digits of x. -/
def N9At (w : World) (v : Value) (x : Nat) : Prop := ∃ A c, v = .slice A (nw9 x) c ∧ nw9 x ≤ c ∧ c ≤ 9223372036854775807 ∧ D9 w w.heap.size A (nw9 x) (dig9 x)
theorem N9At.below {w w' : World} {v : Value} {x : Nat} (h : N9At w v x) (hb : Below w.heap.size w w') : N9At w' v x := by
  obtain ⟨A, c, e, h1, h2, h3⟩ := h
  exact ⟨A, c, e, h1, h2, (h3.below hb).more hb.size⟩
theorem N9At.drewN {w : World} {v : Value} {x : Nat} (h : N9At w v x) (n : Nat) : N9At (w.drewN n) v x := h
/-- A call that returned a slice with the digits of x, in memory that existed or is new; what existed has not changed. -/
def Nat9 (x : Nat) (w : World) (e : Ending) (w' : World) : Prop := ∃ v, e = .returned v ∧ N9At w' v x ∧ Below w.heap.size w w'
theorem below_drewN {B : Nat} {a w : World} (h : Below B a w) (n : Nat) : Below B a (w.drewN n) := ⟨h.os, h.tape, h.output, h.size, h.block⟩

set_option maxHeartbeats 400000 in
theorem r_digit (w : World) (B : Nat) (A : Option Addr) (n c i : Nat) (g : Nat → Nat) (hg : ∀ k, g k < B9) (h : D9 w B A n g) :
    Calls Tryz.prog 134 #[.slice A n c, .int .i64 i] w fun e w' => e = .returned (U (if i < n then g i else 0)) ∧ w = w' := by
  by_cases hi : i < n
  · obtain ⟨b, o, rfl, hc⟩ := h.at_ hi
    rw [if_pos hi]
    have hgi := hg i
    clear h hg
    generalize g i = z at *
    go_enter Tryz.func134, Tryz.ntmps134
    go_wp2
    go_ret
    exact ⟨ret_i (by simp only [IntKind.wrap_u64] at *; unfold B9 at hgi; omega), rfl⟩
  · rw [if_neg hi]
    clear h
    go_enter Tryz.func134, Tryz.ntmps134
    go_wp2
    go_ret
    exact ⟨rfl, rfl⟩
theorem r_digitN (w : World) (v : Value) (i x : Nat) (h : N9At w v x) :
    Calls Tryz.prog 134 #[v, .int .i64 i] w fun e w' => e = .returned (U (dig9 x i)) ∧ w = w' := by
  obtain ⟨A, c, rfl, h1, h2, h3⟩ := h
  refine (r_digit w _ A _ c i _ (dig_lt9 x) h3).mono ?_
  rintro e w' ⟨rfl, rfl⟩
  refine ⟨ret_i ?_, rfl⟩
  by_cases hi : i < nw9 x
  · rw [if_pos hi]
  · rw [if_neg hi, dig_ge9 x _ i (lt_nw9 x) (by omega)]

set_option maxHeartbeats 400000 in
theorem r_trim (w : World) (B : Nat) (A : Option Addr) (m c x : Nat) (h : D9 w B A m (dig9 x)) (hx : x < B9 ^ m) (hm : m ≤ c) (hc : c ≤ 9223372036854775807) :
    Calls Tryz.prog 136 #[.slice A m c] w fun e w' => e = .returned (.slice A (nw9 x) c) ∧ w = w' := by
  have HN : Hid (nw9 x ≤ m) := (nw_le9 x m).2 hx
  clear hx
  go_enter Tryz.func136, Tryz.ntmps136
  go_wp2
  go_loop [0] (fun v => ∃ k : Nat, k ≤ m ∧ nw9 x ≤ k ∧ v = .slice A k c) (fun v => lenV9 v)
  case atStart => exact ⟨m, Nat.le_refl _, HN.out, rfl⟩
  case round =>
    obtain ⟨k, hk, hn, rfl⟩ := hrel
    by_cases h0 : k = 0
    · subst h0
      have hn0 : nw9 x = 0 := by omega
      have H := Lib.hid hn0
      clear hn hn0 h
      go_wp2
      go_ret
      exact ⟨by rw [H.out]; rfl, rfl⟩
    · obtain ⟨j, rfl⟩ : ∃ j, k = j + 1 := ⟨k - 1, by omega⟩
      obtain ⟨b, o, rfl, hcell⟩ := h.at_ (k := j) (by omega)
      by_cases hd : dig9 x j = 0
      · have HL : Hid (nw9 x ≤ j) := (nw_le9 x j).2 (lt_pred9 x j ((nw_le9 x (j + 1)).1 hn) hd)
        rw [hd] at hcell
        clear hd hn h
        go_wp2
        go_round
        case rel => exact ⟨j, by omega, HL.out, by go_num⟩
        case measure => simp [lenV9]
      · have he : nw9 x = j + 1 := nw_of9 x (j + 1) ((nw_le9 x (j + 1)).1 hn) (.inr (by simpa using ge_of_dig9 x j hd))
        have h2 : ((dig9 x j : Int) == 0) = false := by rw [beq_eq_false_iff_ne]; omega
        have H := Lib.hid he
        clear he hn h
        generalize dig9 x j = u at *
        go_wp2
        go_ret
        exact ⟨by rw [H.out]; rfl, rfl⟩
end Go.Proofs.YtnfncdalneifnaaGreatDoor
end

/- The reference's natural numbers: of a word. -/
section
namespace Go.Proofs.YtnfncdalneifnaaGreatDoor
open Go.RowKit Go.Deep

theorem own_nat9 {w w' : World} {v : Value} {x n : Nat} (h : Own9 w' w.heap.size v n (dig9 x)) (hn : nw9 x = n) (hb : Below w.heap.size w w') : Nat9 x w (.returned v) w' := by
  obtain ⟨A, c, rfl, h1, h2, h3⟩ := h.out
  subst hn
  exact ⟨_, rfl, ⟨A, c, rfl, h1, by unfold maxLen at h2; omega, h3⟩, hb⟩
theorem Own9.congr {w : World} {base n : Nat} {v : Value} {f g : Nat → Nat} (h : Own9 w base v n f) (e : ∀ k, k < n → f k = g k) : Own9 w base v n g := by
  obtain ⟨xs, h1, h2⟩ := h
  exact ⟨xs, h1, fun k hk => by rw [h2 k hk, e k hk]⟩

set_option maxHeartbeats 1000000 in
theorem r_natural (w : World) (x : Nat) (hx : x < W64) : Calls Tryz.prog 68 #[U x] w (Nat9 x w) := by
  go_enter Tryz.func68, Tryz.ntmps68
  go_wp2
  go_loopw [0, 3] (fun v out wr => ∃ k q : Nat, v = U q ∧ q < W64 ∧ Hid (q = x / B9 ^ k) ∧ k ≤ 64 ∧ Own9 wr w.heap.size out k (dig9 x) ∧ Below w.heap.size w wr ∧ Hid (q * 2 ^ k < 2 ^ 64) ∧ Hid (k = 0 ∨ B9 ^ (k - 1) ≤ x)) (fun v _ _ => (intOf v).toNat)
  case atStart => exact ⟨0, x, rfl, hx, by show x = x / 1; simp, by omega, Own9.nil _ _ _, Below.refl _ _, by show x * 1 < _; unfold W64 at hx; omega, .inl rfl⟩
  case round =>
    obtain ⟨k, q, rfl, hq, HQ, hk, hown, hb, HL, HK⟩ := hrel
    have hown' := hown
    obtain ⟨A, c, rfl, -, -, -⟩ := hown'.out
    by_cases h0 : q = 0
    · subst h0
      have hlt : x < B9 ^ k := by
        have h1 := HQ.out
        rcases Nat.lt_or_ge x (B9 ^ k) with h2 | h2
        · exact h2
        · have := Nat.div_pos h2 (B9_pow_pos k); omega
      have R := Lib.hid (own_nat9 hown ((nw_of9 x k hlt (HK.out)) ) hb)
      clear hq hown hown' hb HQ HL HK hlt hk
      go_wp2
      go_ret
      exact R.out
    · have hq0 : (0 : Int) < (q : Int) := by omega
      have HD : Hid (dig9 x k = q % 1000000000) := by show x / B9 ^ k % B9 = _; rw [← HQ.out]; rfl
      have HN : Hid (q / 1000000000 = x / B9 ^ (k + 1)) := by show _ = _; rw [Nat.pow_succ, ← Nat.div_div_eq_div_mul, ← HQ.out]; rfl
      have HK' : Hid (k + 1 = 0 ∨ B9 ^ (k + 1 - 1) ≤ x) := .inr (by
        rw [Nat.add_sub_cancel]
        rcases Nat.lt_or_ge x (B9 ^ k) with h2 | h2
        · have h1 := HQ.out; rw [Nat.div_eq_of_lt h2] at h1; omega
        · exact h2)
      have HL' : Hid (q / 1000000000 * 2 ^ (k + 1) < 2 ^ 64) := by
        show _ < _
        have h1 := HL.out
        have h2 : q / 1000000000 * 2 ≤ q := by omega
        have h3 : q / 1000000000 * 2 * 2 ^ k ≤ q * 2 ^ k := Nat.mul_le_mul_right _ h2
        rw [Nat.pow_succ, Nat.mul_comm (2 ^ k), ← Nat.mul_assoc]
        omega
      have hk' : k < 64 := by
        rcases Nat.lt_or_ge k 64 with h1 | h1
        · exact h1
        · have h2 : 2 ^ 64 ≤ 2 ^ k := Nat.pow_le_pow_right (by decide) h1
          have h3 : 1 * 2 ^ k ≤ q * 2 ^ k := Nat.mul_le_mul_right _ (by omega)
          have h4 := HL.out
          omega
      have Hq := Lib.hid hq
      have HWn := Lib.hid hown
      have HB := Lib.hid hb
      have hsz := hb.size
      clear hq hown hown' hb HQ HL HK
      go_wp2_with (at_builtin; refine wpList_app9 rfl _ _ rfl wr _ (dig9 x k) rfl ?_ w.heap.size _ k (dig9 x) rfl rfl HWn.out (by omega) hsz ?_; (focus (rw [HD.out]; exact congrArg (Value.int .u32) (by omega))); intro v' w' hown2 hb2)
      go_roundw
      case rel =>
        have Hq2 := Hq.out
        refine ⟨k + 1, q / 1000000000, by unfold W64 at Hq2; exact congrArg (Value.int .u64) (by rw [IntKind.wrap_u64]; omega), Nat.lt_of_le_of_lt (Nat.div_le_self _ _) Hq2, HN, by omega, hown2.congr fun j hj => ?_, HB.out.trans hb2, HL', HK'⟩
        by_cases e : j = k
        · subst e; rw [upd_same]
        · rw [upd_ne _ _ _ _ e]
      case measure =>
        have Hq2 := Hq.out
        unfold W64 at Hq2
        simp only [intOf, IntKind.wrap_u64]
        omega
end Go.Proofs.YtnfncdalneifnaaGreatDoor
end
