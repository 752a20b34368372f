/- A number written into a list of the walk's own. -/
import Derived.Test.YtogmbehomilalaaGreatDoorZSmA
import Derived.Test.YtogmbehomilalaaGreatDoorZBldK
import Derived.Test.YtogmbehomilalaaGreatDoorZSpI
import Derived.Test.YtogmbehomilalaaGreatDoorZLSa
import Derived.Test.YtogmbehomilalaaGreatDoorZApC
import Derived.Test.YtogmbehomilalaaGreatDoorZSeq
import Derived.Lib.ItoaNum
import Derived.Test.YtogmbehomilalaaGreatDoorZCmpS
import Derived.Test.YtogmbehomilalaaGreatDoorZSpH
import Derived.BigQuiet

/- A number written into a list of the walk's own. -/
section
namespace Go.Proofs.YtogmbehomilalaaGreatDoor
open Go Go.RowKit Go.Deep

theorem OwnI.put {w : World} {B n : Nat} {v : Value} {f : Nat → Int} (h : OwnI w B v n f) (hn : 0 < n) : ∃ g cap, v = .slice (some ⟨g, 0, none⟩) n cap ∧ B ≤ g ∧ g < w.heap.size ∧ (∀ k, k < n → w.cell? ⟨g, k, none⟩ = some (.int .i64 (f k))) ∧ (∀ k, w.frozen? ⟨g, k, none⟩ = false) ∧ ∀ k y, k < n → OwnI (w.setCell ⟨g, k, none⟩ (.int .i64 y)) B v n (updZ f k y) := by
  obtain ⟨xs, ⟨hl, h1⟩, h2⟩ := h
  rcases h1 with ⟨rfl, rfl⟩ | ⟨g, cap, cur, rfl, hBg, hh, hnc, hcm, hsz, ht⟩
  · omega
  · have get : ∀ k, k < n → cur[k]? = some (.int .i64 (f k)) := fun k hk => by
      have h3 : cur.toList[k]? = some (.int .i64 (f k)) := by
        rw [← List.getElem?_take_of_lt (show k < n * 1 by omega), ht]
        exact h2 k hk
      rw [Array.getElem?_toList] at h3
      exact h3
    refine ⟨g, cap, rfl, hBg, (Array.getElem?_eq_some_iff.1 hh).1, fun k hk => by simp [World.cell?, hh, get k hk], fun k => by simp [World.frozen?, hh], fun k y hk => ⟨xs.set k (.int .i64 y), ⟨by rw [List.length_set]; exact hl, .inr ⟨g, cap, cur.set! k (.int .i64 y), rfl, hBg, ?_, hnc, hcm, by simpa using hsz, ?_⟩⟩, fun j hj => ?_⟩⟩
    · simp [World.setCell, Array.getElem?_modify, hh]
    · rw [Array.set!_eq_setIfInBounds, Array.toList_setIfInBounds, List.take_set, ht]
    · unfold updZ
      by_cases e : j = k
      · subst e
        rw [List.getElem?_set_self (by omega), if_pos rfl]
      · rw [List.getElem?_set_ne (by omega), if_neg e]
        exact h2 j hj
end Go.Proofs.YtogmbehomilalaaGreatDoor
end

/- A box of two lists that grow. -/
section
namespace Go.Proofs.YtogmbehomilalaaGreatDoor
open Go Go.RowKit Go.Deep

theorem OwnI.congr {w : World} {B n : Nat} {v : Value} {f g : Nat → Int} (h : OwnI w B v n f) (hfg : ∀ k, k < n → f k = g k) : OwnI w B v n g := by
  obtain ⟨xs, h1, h2⟩ := h
  exact ⟨xs, h1, fun k hk => by rw [← hfg k hk]; exact h2 k hk⟩
theorem OwnI.ne {w : World} {B n b : Nat} {v : Value} {f : Nat → Int} (h : OwnI w B v n f) (hb : b < B) : v.ownBlock = none ∨ v.ownBlock ≠ some b := by
  cases e : v.ownBlock with
  | none => exact .inl rfl
  | some g =>
    have := (h.block e).1
    refine .inr fun e2 => ?_
    injection e2 with e2
    omega
/-- The box at ob holds two lists of the walk's own. -/
def InS2 (ob : Nat) (W : World) (x1 x2 : Value) (k1 k2 : Nat) (f g : Nat → Int) : Prop :=
  W.heap[ob]? = some (.cells #[x1, x2] 45 (0, 0)) ∧ OwnI W (ob + 1) x1 k1 f ∧ OwnI W (ob + 1) x2 k2 g ∧ (x1.ownBlock = none ∨ x1.ownBlock ≠ x2.ownBlock)
end Go.Proofs.YtogmbehomilalaaGreatDoor
end

/- Lists of the walk's own outlast what is above them. -/
section
namespace Go.Proofs.YtogmbehomilalaaGreatDoor
open Go Go.RowKit Go.Deep

theorem OwnI.below {w w' : World} {B n : Nat} {v : Value} {f : Nat → Int} (h : OwnI w B v n f) (hb : Below w.heap.size w w') : OwnI w' B v n f := h.kept (Below.by_ hb) (by cases e : v.ownBlock with | none => exact .inl rfl | some g => exact .inr (by simp))
theorem InS2.below {W W' : World} {ob : Nat} {x1 x2 : Value} {k1 k2 : Nat} {f g : Nat → Int} (h : InS2 ob W x1 x2 k1 k2 f g) (hb : Below W.heap.size W W') : InS2 ob W' x1 x2 k1 k2 f g := ⟨(hb.block _ (Array.getElem?_eq_some_iff.1 h.1).1).trans h.1, h.2.1.below hb, h.2.2.1.below hb, h.2.2.2⟩
end Go.Proofs.YtogmbehomilalaaGreatDoor
end

/- A whole list of integers appended to a list of the walk's own. -/
section
namespace Go.Proofs.YtogmbehomilalaaGreatDoor
open Go Go.RowKit Go.Deep Go.Shelf

def catI (n : Nat) (f g : Nat → Int) (j : Nat) : Int := if j < n then f j else g (j - n)
theorem rowL_intI {f : Nat → Int} {n k : Nat} (hk : k < n) : (rowL (intF f) 1 n)[k]? = some (.int .i64 (f k)) := by
  simp [rowL, hk, intF]
theorem OwnI.lit (w : World) (B : Nat) (hB : B ≤ w.heap.size) (f : Nat → Int) : OwnI (w.alloc (.cells #[] 3)) B (.slice (some ⟨w.heap.size, 0, none⟩) 0 0) 0 f :=
  ⟨[], ⟨rfl, .inr ⟨w.heap.size, 0, #[], rfl, hB, heap_alloc_new _ _, Nat.le_refl _, Nat.zero_le _, by simp, by simp⟩⟩, fun k hk => absurd hk (by omega)⟩
set_option maxRecDepth 100000 in
theorem wpList_appIs {ops : Array Oper} {rest : List Oper} {o : Oper} {a : Act} {Q : Exit → Act → World → Prop} (hgd : o.guard = none) (s x : Operand)
    (ho : o.op = .call { callee := .builtin .append, args := #[s, x], argTypes := #[35, 35] })
    (W : World) (B : Nat) (v : Value) (n : Nat) (f : Nat → Int) (hs : a.eval s = v) (A : Option Addr) (m cc : Nat) (g : Nat → Int) (hx : a.eval x = .slice A m cc) (hi : IntsAt W A m g)
    (hown : OwnI W B v n f) (hn : n + m ≤ 1000000) (hB : B ≤ W.heap.size)
    (h : ∀ v' w', OwnI w' B v' (n + m) (catI n f g) → W.grownBy w' v.ownBlock → (v'.ownBlock = v.ownBlock ∨ v'.ownBlock = some W.heap.size) → wpList Tryz.prog ops Q rest (a.put o.dst v') w') : wpList Tryz.prog ops Q (o :: rest) a W := by
  obtain ⟨xs, h1, h2⟩ := hown
  obtain ⟨i0, hi0, hz0, hz1, hz2⟩ := info_parts info_int
  refine wpList_app_rowA hgd s x 35 ho B 3 i0 (.int .i64 0) 1 8 Tryz.underlying35 hi0 hz0 hz1 hz2 rfl Nat.zero_lt_one v n xs hs h1 A m cc (intF g) hx hi.row (fun k r => rfl) (by unfold maxLen; omega) (by omega) hB ?_
  intro v' w' g1 g2 g4
  refine h v' w' ⟨_, g1, fun k hk => ?_⟩ g2 g4
  have hl : xs.length = n := by rw [h1.1, Nat.mul_one]
  unfold catI
  by_cases e : k < n
  · rw [if_pos e, List.getElem?_append_left (by omega)]
    exact h2 k e
  · rw [if_neg e, List.getElem?_append_right (by omega), hl]
    exact rowL_intI (by omega)
/-- A list that lies in blocks from B on. -/
def NewI (w' : World) (B n : Nat) (f : Nat → Int) (e : Ending) : Prop := ∃ P c, e = .returned (.slice P n c) ∧ IntsAt w' P n f ∧ ∀ a, P = some a → B ≤ a.block
theorem OwnI.new {w : World} {B n : Nat} {v : Value} {f : Nat → Int} (h : OwnI w B v n f) : NewI w B n f (.returned v) := by
  obtain ⟨P, c, rfl, h1⟩ := h.ints
  refine ⟨P, c, rfl, h1, fun a ha => ?_⟩
  subst ha
  exact (h.block rfl).1
theorem NewI.congr {w : World} {B n : Nat} {f g : Nat → Int} {e : Ending} (h : NewI w B n f e) (hfg : ∀ k, k < n → f k = g k) : NewI w B n g e := by
  obtain ⟨P, c, h1, h2, h3⟩ := h
  exact ⟨P, c, h1, fun hn => by
    obtain ⟨b, o, e1, e2, e3⟩ := h2 hn
    exact ⟨b, o, e1, e2, fun k hk => by rw [← hfg k hk]; exact e3 k hk⟩, h3⟩
end Go.Proofs.YtogmbehomilalaaGreatDoor
end

/- The keys of the row-major and of the tiled order. -/
section
namespace Go.Proofs.YtogmbehomilalaaGreatDoor
open Go Go.RowKit Go.Deep

theorem frm_box (w : World) (L H : Value) (tile wd : Int) (W : World) (hW : Below (w.alloc (.cells #[L, H, .int .i64 tile, .int .i64 wd] 148)).heap.size (w.alloc (.cells #[L, H, .int .i64 tile, .int .i64 wd] 148)) W) :
    W.cell? ⟨w.heap.size, 0, none⟩ = some L ∧ W.cell? ⟨w.heap.size, 1, none⟩ = some H ∧ W.cell? ⟨w.heap.size, 2, none⟩ = some (.int .i64 tile) ∧ W.cell? ⟨w.heap.size, 3, none⟩ = some (.int .i64 wd) := by
  have h := (hW.block w.heap.size (by simp)).trans (heap_alloc_new w _)
  refine ⟨?_, ?_, ?_, ?_⟩ <;> (rw [cell_of_row _ _ _ _ _ _ h]; rfl)
def extB (lo hi : Nat → Int) (n : Nat) : Prop := ∀ k, k < n → -9223372036854775808 ≤ lo k ∧ lo k ≤ hi k ∧ hi k ≤ 1073741824 ∧ hi k - lo k < 4096
set_option maxRecDepth 100000 in
set_option maxHeartbeats 1000000 in
theorem s_fextent (w : World) (L H : Option Addr) (n cl ch : Nat) (tile wd : Int) (lo hi : Nat → Int) (k : Nat) (hl : IntsAt w L n lo) (hh : IntsAt w H n hi) (hk : k < n) (hb : extB lo hi n) :
    Calls Tryz.prog 121 #[FrmV L n cl H n ch tile wd, .int .i64 k] w fun e w' => e = .returned (.int .i64 (hi k - lo k + 1)) ∧ Below w.heap.size w w' := by
  have KB := Lib.hid (frm_box w (.slice L n cl) (.slice H n ch) tile wd)
  have HB : Hid (Below w.heap.size w (w.alloc (.cells #[.slice L n cl, .slice H n ch, .int .i64 tile, .int .i64 wd] 148))) := (Below.refl _ _).alloc (Nat.le_refl _) _
  have HL := Lib.hid (hl.below HB.out)
  have HH := Lib.hid (hh.below HB.out)
  obtain ⟨q1, q2, q3, q4⟩ := hb k hk
  clear hl hh hb
  go_enter Tryz.func121, Tryz.ntmps121
  go_wp2_with fail
  generalize w.alloc (.cells #[.slice L n cl, .slice H n ch, .int .i64 tile, .int .i64 wd] 148) = W0 at *
  obtain ⟨b1, o1, rfl, h1, hc1⟩ := HL.out (by omega)
  obtain ⟨b2, o2, rfl, h2, hc2⟩ := HH.out (by omega)
  have x0 := hc1 k hk
  have y0 := hc2 k hk
  obtain ⟨m0, m1, -, -⟩ := KB.out _ (Below.refl _ _)
  clear hc1 hc2
  go_wp2_with fail
  go_quiet (fail)
  go_wp2
  go_ret
  exact ⟨rfl, drewB HB.out _⟩

/-- The number of coordinates, row by row. -/
def rmZ (lo hi xs : Nat → Int) : Nat → Int
  | 0 => 0
  | k + 1 => rmZ lo hi xs k * (hi k - lo k + 1) + (xs k - lo k)
def tlZ (lo hi xs : Nat → Int) (tile : Int) : Nat → Int
  | 0 => 0
  | k + 1 => tlZ lo hi xs tile k * (hi k - lo k + 1) + (xs k - lo k) / tile
def inB (lo hi xs : Nat → Int) (n : Nat) : Prop := ∀ k, k < n → lo k ≤ xs k ∧ xs k ≤ hi k
theorem num_next {P p e y : Int} (h0 : 0 ≤ p) (h1 : p < P) (he : 1 ≤ e) (h4 : e ≤ 4096) (hy : 0 ≤ y) (h2 : y < e) : 0 ≤ p * e ∧ 0 ≤ p * e + y ∧ p * e + y < P * e ∧ p * e + y < P * 4096 := by
  have a := Int.mul_nonneg h0 (show 0 ≤ e by omega)
  have b : (p + 1) * e ≤ P * e := Int.mul_le_mul_of_nonneg_right (by omega) (by omega)
  have c : P * e ≤ P * 4096 := Int.mul_le_mul_of_nonneg_left h4 (by omega)
  rw [Int.add_mul, Int.one_mul] at b
  omega
theorem pow_next (k : Nat) : (4096 : Int) ^ (k + 1) = 4096 ^ k * 4096 := by rw [Int.pow_succ]
theorem rmZ_bound {lo hi xs : Nat → Int} {n : Nat} (hb : extB lo hi n) (hx : inB lo hi xs n) : ∀ k, k ≤ n → 0 ≤ rmZ lo hi xs k ∧ rmZ lo hi xs k < 4096 ^ k
  | 0, _ => by show (0 : Int) ≤ 0 ∧ (0 : Int) < 4096 ^ 0; decide
  | k + 1, hk => by
    have ih := rmZ_bound hb hx k (by omega)
    have h1 := hb k (by omega)
    have h2 := hx k (by omega)
    have h3 := num_next ih.1 ih.2 (e := hi k - lo k + 1) (y := xs k - lo k) (by omega) (by omega) (by omega) (by omega)
    rw [rmZ, pow_next]
    exact ⟨h3.2.1, h3.2.2.2⟩
theorem quo_small {y e t : Int} (h0 : 0 ≤ y) (h1 : y < e) (ht : 1 ≤ t) : 0 ≤ y / t ∧ y / t < e := by
  refine ⟨Int.ediv_nonneg h0 (by omega), Int.lt_of_le_of_lt ?_ h1⟩
  exact Int.ediv_le_self _ h0
theorem tlZ_bound {lo hi xs : Nat → Int} {tile : Int} {n : Nat} (hb : extB lo hi n) (hx : inB lo hi xs n) (ht : 1 ≤ tile) : ∀ k, k ≤ n → 0 ≤ tlZ lo hi xs tile k ∧ tlZ lo hi xs tile k < 4096 ^ k
  | 0, _ => by show (0 : Int) ≤ 0 ∧ (0 : Int) < 4096 ^ 0; decide
  | k + 1, hk => by
    have ih := tlZ_bound hb hx ht k (by omega)
    have h1 := hb k (by omega)
    have h2 := hx k (by omega)
    have h4 := quo_small (y := xs k - lo k) (e := hi k - lo k + 1) (t := tile) (by omega) (by omega) ht
    have h3 := num_next ih.1 ih.2 (e := hi k - lo k + 1) (y := (xs k - lo k) / tile) (by omega) (by omega) h4.1 h4.2
    rw [tlZ, pow_next]
    exact ⟨h3.2.1, h3.2.2.2⟩
theorem pow4 {k : Nat} (h : k ≤ 4) : (4096 : Int) ^ k ≤ 281474976710656 := by
  rcases (by omega : k = 0 ∨ k = 1 ∨ k = 2 ∨ k = 3 ∨ k = 4) with rfl | rfl | rfl | rfl | rfl <;> decide
theorem key_wrap {p x l I : Int} (h : I = p + (x - l)) (h0 : 0 ≤ p) (h1 : p ≤ 1152921504606846976) (h3 : -9223372036854775808 ≤ l) (h5 : l ≤ x) (h6 : x ≤ 1073741824) (h7 : x - l ≤ 4096) : IntKind.i64.wrap (IntKind.i64.wrap (IntKind.i64.wrap p + x) - l) = I := by
  rw [w64 (n := p) (by omega) (by omega), w64 (n := p + x) (by omega) (by omega), w64 (by omega) (by omega)]
  omega
set_option maxRecDepth 100000 in
set_option maxHeartbeats 4000000 in
theorem s_rowMajor (w : World) (L H X : Option Addr) (n cl ch cx : Nat) (tile wd : Int) (lo hi xs : Nat → Int) (hl : IntsAt w L n lo) (hh : IntsAt w H n hi) (hx : IntsAt w X n xs) (hn : n ≤ 4) (hb : extB lo hi n) (hi2 : inB lo hi xs n) :
    Calls Tryz.prog 95 #[FrmV L n cl H n ch tile wd, .slice X n cx] w fun e w' => e = .returned (.int .i64 (rmZ lo hi xs n)) ∧ Below w.heap.size w w' := by
  have KB := Lib.hid (frm_box w (.slice L n cl) (.slice H n ch) tile wd)
  have HL := Lib.hid hl
  have HX := Lib.hid hx
  have HE : Hid (∀ W k, Below w.heap.size w W → k < n → Calls Tryz.prog 121 #[FrmV L n cl H n ch tile wd, .int .i64 k] W fun e w' => e = .returned (.int .i64 (hi k - lo k + 1)) ∧ Below W.heap.size W w') := fun W k hW hk => s_fextent W L H n cl ch tile wd lo hi k (hl.below hW) (hh.below hW) hk hb
  have HN : Hid (∀ k, k ≤ n → 0 ≤ rmZ lo hi xs k ∧ rmZ lo hi xs k < 4096 ^ k) := rmZ_bound hb hi2
  have HB : Hid (extB lo hi n ∧ inB lo hi xs n) := ⟨hb, hi2⟩
  have HW0 : Hid (Below w.heap.size w (w.alloc (.cells #[.slice L n cl, .slice H n ch, .int .i64 tile, .int .i64 wd] 148))) := (Below.refl _ _).alloc (Nat.le_refl _) _
  have hz0 : (w.alloc (.cells #[.slice L n cl, .slice H n ch, .int .i64 tile, .int .i64 wd] 148)).heap.size = w.heap.size + 1 := by simp
  clear hl hh hx hb hi2
  go_enter Tryz.func95, Tryz.ntmps95
  go_wp2
  rw [hz0] at KB
  generalize w.alloc (.cells #[.slice L n cl, .slice H n ch, .int .i64 tile, .int .i64 wd] 148) = W0 at *
  have HBA : Hid (∀ W, Below (w.heap.size + 1) W0 W → Below w.heap.size w W) := fun W hW => HW0.out.trans (hW.mono (by omega))
  go_loopw [5, 6, 7, 10] (fun v _ _ i wr => ∃ k : Nat, k ≤ n ∧ i = .int .i64 k ∧ v = .int .i64 (rmZ lo hi xs k) ∧ Hid (Below (w.heap.size + 1) W0 wr)) (fun _ _ _ i _ => n - (intOf i).toNat)
  case atStart => exact ⟨0, Nat.zero_le _, rfl, rfl, (Below.refl _ _)⟩
  case round =>
    obtain ⟨k, hk, rfl, rfl, HBr⟩ := hrel
    have HBw := Lib.hid (HBA.out wr HBr.out)
    by_cases hlt : k < n
    · obtain ⟨bl, ol, rfl, hbl, hcl⟩ := (HL.out.below HBw.out) (by omega)
      obtain ⟨bx, ox, rfl, hbx, hcx⟩ := (HX.out.below HBw.out) (by omega)
      have x0 := hcx k hlt
      have HKq : Hid (∀ W, Below wr.heap.size wr W → (W.cell? ⟨w.heap.size, 0, none⟩ = some (.slice (some ⟨bl, ol, none⟩) n cl) ∧ W.cell? ⟨w.heap.size, 1, none⟩ = some (.slice H n ch) ∧ W.cell? ⟨w.heap.size, 2, none⟩ = some (.int .i64 tile) ∧ W.cell? ⟨w.heap.size, 3, none⟩ = some (.int .i64 wd)) ∧ W.cell? ⟨bl, ol + k, none⟩ = some (.int .i64 (lo k))) := fun W hW =>
        ⟨KB.out W (HBr.out.trans (hW.mono (by have := HBr.out.size; omega))), (hW.cell (p := ⟨bl, ol + k, none⟩) hbl).trans (hcl k hlt)⟩
      have HEk : Hid (∀ W, Below wr.heap.size wr W → Calls Tryz.prog 121 #[FrmV (some ⟨bl, ol, none⟩) n cl H n ch tile wd, .int .i64 k] W fun e w' => e = .returned (.int .i64 (hi k - lo k + 1)) ∧ Below W.heap.size W w') := fun W hW => HE.out W k (st HBw.out hW) hlt
      have HS : Hid (rmZ lo hi xs (k + 1) = rmZ lo hi xs k * (hi k - lo k + 1) + (xs k - lo k)) := rfl
      have HN1 := Lib.hid (HN.out (k + 1) (by omega))
      have HN0 := Lib.hid (HN.out k (by omega))
      have HP := Lib.hid (pow4 (k := k) (by omega))
      have HQ := Lib.hid (And.intro (HB.out.1 k hlt) (HB.out.2 k hlt))
      have HPB : Hid (0 ≤ rmZ lo hi xs k * (hi k - lo k + 1) ∧ rmZ lo hi xs k * (hi k - lo k + 1) ≤ 1152921504606846976) := by
        have a := num_next HN0.out.1 HN0.out.2 (e := hi k - lo k + 1) (y := 0) (by have := HQ.out; omega) (by have := HQ.out; omega) (by omega) (by have := HQ.out; omega)
        have := HP.out
        exact ⟨a.1, by have := a.2.2.2; omega⟩
      have hbnd : -9223372036854775808 ≤ hi k - lo k + 1 ∧ hi k - lo k + 1 ≤ 9223372036854775807 := by have := HQ.out; omega
      clear hcl hcx hbx HN1 HN0 HP
      have B0d : Below wr.heap.size wr wr.drew := Below.drew (Below.refl _ _)
      obtain ⟨I', hI⟩ : ∃ I', rmZ lo hi xs (k + 1) = I' := ⟨_, rfl⟩
      have HI2 := Lib.hid hI
      rw [hI] at HS
      clear hI
      generalize rmZ lo hi xs k = I at *
      generalize hi k - lo k + 1 = E at *
      obtain ⟨⟨m0, m1, m2, m3⟩, y0⟩ := HKq.out wr (Below.refl _ _)
      generalize xs k = z at *
      generalize lo k = l0 at *
      go_wp2_with fail
      go_region_held3 (fun W => (W.cell? ⟨w.heap.size, 0, none⟩ = some (.slice (some ⟨bl, ol, none⟩) n cl) ∧ W.cell? ⟨w.heap.size, 1, none⟩ = some (.slice H n ch) ∧ W.cell? ⟨w.heap.size, 2, none⟩ = some (.int .i64 tile) ∧ W.cell? ⟨w.heap.size, 3, none⟩ = some (.int .i64 wd)) ∧ W.cell? ⟨bl, ol + k, none⟩ = some (.int .i64 l0))
        (first | exact HKq.out _ B1 | exact HKq.out _ B0d | exact HKq.out _ (Below.refl _ _))
        (first
          | (go_at_call 121; refine (HEk.out _ B0d).mono ?_; rintro e w3 ⟨rfl, hb3⟩; have B1 : Below wr.heap.size wr w3 := st B0d hb3))
      all_goals
        go_wp2
        go_roundw
        case rel => exact ⟨k + 1, by omega, by go_num, (by rw [HI2.out]; have := HPB.out; have := HQ.out; exact congrArg _ (key_wrap HS.out (by omega) (by omega) (by omega) (by omega) (by omega) (by omega))), HBr.out.trans (B1.mono (by have := HBr.out.size; omega))⟩
        case measure => simp [intOf]; omega
    · obtain rfl : k = n := by omega
      go_wp2
      go_ret
      exact ⟨rfl, HBw.out⟩
/-- The tiled order's key. -/
theorem ord_tile {tile : Int} (h : ordB 3 tile = true) : 1 ≤ tile ∧ tile ≤ 64 := by
  unfold ordB at h
  simpa using h
/-- The keys of the t-th coordinates. -/
def rmK (n : Nat) (lo hi : Nat → Int) (e : Nat → Nat) (t : Nat) : Int := rmZ lo hi (fun k => crdZ lo e n t k) n
def tlK (n : Nat) (lo hi : Nat → Int) (tile : Int) (e : Nat → Nat) (t : Nat) : Int := tlZ lo hi (fun k => crdZ lo e n t k) tile n * 4096 + rmZ lo hi (fun k => crdZ lo e n t k) n
end Go.Proofs.YtogmbehomilalaaGreatDoor
end

/- Numbers of coordinates: volumes, widths, and that the keys of an order differ. -/
section
namespace Go.Proofs.YtogmbehomilalaaGreatDoor
open Go Go.RowKit Go.Deep Go.Shelf

theorem volO_volC {lo hi : Nat → Int} {e : Nat → Nat} {n : Nat} (he : ∀ k, k < n → 1 ≤ e k ∧ hi k = lo k + e k - 1) : ∀ k, k ≤ n → volO lo hi k * volC e n k = volC e n 0
  | 0, _ => by show 1 * _ = _; rw [Nat.one_mul]
  | k + 1, hk => by
    have ih := volO_volC he k (by omega)
    have h1 := he k (by omega)
    have h2 : (hi k - lo k + 1).toNat = e k := by omega
    rw [volC_step (k := k) (by omega)] at ih
    show volO lo hi k * (hi k - lo k + 1).toNat * _ = _
    rw [h2, Nat.mul_assoc]
    exact ih
theorem volO_all {lo hi : Nat → Int} {e : Nat → Nat} {n : Nat} (he : ∀ k, k < n → 1 ≤ e k ∧ hi k = lo k + e k - 1) : volO lo hi n = volC e n 0 := by
  have := volO_volC he n (Nat.le_refl _)
  rwa [volC_end, Nat.mul_one] at this
theorem bit_len_lt {x : Nat} (h : x < 2 ^ 64) : x < 2 ^ Lib.bitLen x := by
  by_cases h0 : x = 0
  · subst h0; exact Nat.two_pow_pos _
  · exact (Lib.bitLenAux_bounds 64 x h h0).2.2
theorem wd_ge {lo hi : Nat → Int} : ∀ {n k : Nat}, k < n → Lib.bitLen (hi k - lo k).toNat ≤ wdTo lo hi n
  | 0, _, h => absurd h (Nat.not_lt_zero _)
  | n + 1, k, h => by
    rw [wdTo]
    by_cases e : k = n
    · subst e; exact Nat.le_max_right _ _
    · exact Nat.le_trans (wd_ge (show k < n by omega)) (Nat.le_max_left _ _)
theorem wd_le {lo hi : Nat → Int} {b : Nat} (hb : b ≤ 64) : ∀ {n : Nat}, (∀ k, k < n → (hi k - lo k).toNat < 2 ^ b) → wdTo lo hi n ≤ b
  | 0, _ => Nat.zero_le _
  | n + 1, h => by
    rw [wdTo]
    exact Nat.max_le.2 ⟨wd_le hb fun k hk => h k (by omega), Lib.bitLen_le _ _ hb (h n (Nat.lt_succ_self n))⟩
theorem crd_dig {lo : Nat → Int} {e : Nat → Nat} {n t k : Nat} : (crdZ lo e n t k - lo k).toNat = digC e n t k := by unfold crdZ; omega
/-- The row-major key is the number itself. -/
theorem rm_num {lo hi : Nat → Int} {e : Nat → Nat} {n t : Nat} (he : ∀ k, k < n → 1 ≤ e k ∧ hi k = lo k + e k - 1) (ht : t < volC e n 0) : ∀ k, k ≤ n → rmZ lo hi (fun k => crdZ lo e n t k) k = (t / volC e n k : Nat)
  | 0, _ => by rw [Nat.div_eq_of_lt ht]; rfl
  | k + 1, hk => by
    have ih := rm_num he ht k (by omega)
    obtain ⟨h1, h2⟩ := he k (by omega)
    have hv := volC_step (e := e) (n := n) (k := k) (by omega)
    have hd : crdZ lo e n t k - lo k = (t / volC e n (k + 1) % e k : Nat) := by unfold crdZ digC; omega
    have hdm : e k * (t / volC e n (k + 1) / e k) + t / volC e n (k + 1) % e k = t / volC e n (k + 1) := Nat.div_add_mod _ _
    rw [rmZ, ih, hd, show hi k - lo k + 1 = (e k : Int) by omega, hv, Nat.mul_comm (e k), ← Nat.div_div_eq_div_mul]
    rw [← Int.natCast_mul, ← Int.natCast_add, Nat.mul_comm]
    exact congrArg _ hdm
theorem rmK_num {lo hi : Nat → Int} {e : Nat → Nat} {n t : Nat} (he : ∀ k, k < n → 1 ≤ e k ∧ hi k = lo k + e k - 1) (ht : t < volC e n 0) : rmK n lo hi e t = t := by
  unfold rmK
  rw [rm_num he ht n (Nat.le_refl _), volC_end, Nat.div_one]
theorem rmK_inj {lo hi : Nat → Int} {e : Nat → Nat} {n : Nat} (he : ∀ k, k < n → 1 ≤ e k ∧ hi k = lo k + e k - 1) : ∀ s t, s < volC e n 0 → t < volC e n 0 → rmK n lo hi e s = rmK n lo hi e t → s = t := fun s t hs ht h => by
  rw [rmK_num he hs, rmK_num he ht] at h
  omega
theorem tlK_inj {lo hi : Nat → Int} {tile : Int} {e : Nat → Nat} {n : Nat} (he : ∀ k, k < n → 1 ≤ e k ∧ hi k = lo k + e k - 1) (hv : volC e n 0 ≤ 4096) : ∀ s t, s < volC e n 0 → t < volC e n 0 → tlK n lo hi tile e s = tlK n lo hi tile e t → s = t := fun s t hs ht h => by
  have h1 := rmK_num he hs
  have h2 := rmK_num he ht
  unfold rmK at h1 h2
  unfold tlK at h
  rw [h1, h2] at h
  omega
theorem dig_inj {e : Nat → Nat} {n s t : Nat} (hs : s < volC e n 0) (ht : t < volC e n 0) (h : ∀ k, k < n → digC e n s k = digC e n t k) : s = t := by
  have key : ∀ k, k ≤ n → s / volC e n k = t / volC e n k := by
    intro k
    induction k with
    | zero => intro _; rw [Nat.div_eq_of_lt hs, Nat.div_eq_of_lt ht]
    | succ k ih =>
      intro hk
      have h1 := ih (by omega)
      have h2 := h k (by omega)
      unfold digC at h2
      rw [volC_step (k := k) (by omega), Nat.mul_comm, ← Nat.div_div_eq_div_mul, ← Nat.div_div_eq_div_mul] at h1
      rw [← Nat.div_add_mod (s / volC e n (k + 1)) (e k), ← Nat.div_add_mod (t / volC e n (k + 1)) (e k), h1, h2]
  have := key n (Nat.le_refl _)
  rwa [volC_end, Nat.div_one, Nat.div_one] at this
theorem hilK_inj {lo hi : Nat → Int} {e : Nat → Nat} {n : Nat} (hn : 1 ≤ n) (he : ∀ k, k < n → 1 ≤ e k ∧ hi k = lo k + e k - 1 ∧ e k ≤ 4096) : ∀ s t, s < volC e n 0 → t < volC e n 0 → hilK n (wdTo lo hi n) lo e s = hilK n (wdTo lo hi n) lo e t → s = t := fun s t hs ht h => by
  have hl : ∀ t, LtN n (wdTo lo hi n) (fun k => if k < n then (crdZ lo e n t k - lo k).toNat else 0) := fun t k hk => by
    show (if k < n then _ else 0) < _
    rw [if_pos hk, crd_dig]
    have h1 := he k hk
    have h2 := digC_lt (t := t) (fun k hk => (he k hk).1) hk
    have h3 : (hi k - lo k).toNat < 2 ^ Lib.bitLen (hi k - lo k).toNat := bit_len_lt (Nat.lt_of_le_of_lt (show _ ≤ 4096 by omega) (by decide))
    have h4 := Nat.pow_le_pow_right (n := 2) (by decide) (wd_ge (lo := lo) (hi := hi) hk)
    omega
  unfold hilK at h
  have ha := hilN_inj hn (hl s) (hl t) (by exact_mod_cast h)
  refine dig_inj hs ht fun k hk => ?_
  have := ha k hk
  simp only [if_pos hk, crd_dig] at this
  exact this
end Go.Proofs.YtogmbehomilalaaGreatDoor
end

/- Boxes: what is in them; the reference's too. -/
section
namespace Go.Proofs.YtogmbehomilalaaGreatDoor
open Go Go.RowKit Go.Deep

def belB (x hi : Int) : Bool := decide (x ≤ hi) || decide (1073741825 ≤ hi)
theorem s_below (x hi : Int) (w : World) : Calls Tryz.prog 100 #[.int .i64 x, .int .i64 hi] w fun e w' => e = .returned (.bool (belB x hi)) ∧ w' = w := by
  have HE : Hid (belB x hi = (decide (x ≤ hi) || decide (1073741825 ≤ hi))) := rfl
  go_enter Tryz.func100, Tryz.ntmps100
  by_cases g1 : x ≤ hi
  · rw [decide_eq_true g1] at HE
    go_wp2
    go_ret
    exact ⟨by rw [HE.out]; rfl, rfl⟩
  · rw [decide_eq_false g1] at HE
    by_cases g2 : hi ≥ 1073741825
    · have g3 : (1073741825 : Int) ≤ hi := g2
      rw [decide_eq_true g3] at HE
      go_wp2
      go_ret
      exact ⟨by rw [HE.out]; rfl, rfl⟩
    · have g3 : ¬ (1073741825 : Int) ≤ hi := g2
      rw [decide_eq_false g3] at HE
      go_wp2
      go_ret
      exact ⟨by rw [HE.out]; rfl, rfl⟩
theorem r_Formed (w : World) (L H : Option Addr) (n c m d : Nat) : Calls Tryz.prog 45 #[BoxW L H n c m d] w fun e w' => e = .returned (.bool (n == m && (decide (1 ≤ n) && decide (n ≤ 4)))) ∧ w' = w.alloc (.cells #[.slice L n c, .slice H m d] 45) := by
  obtain ⟨l0, l1⟩ := box_two w (.slice L n c) (.slice H m d) 45 _ (Below.refl _ _)
  have hnm : ((n : Int) == (m : Int)) = (n == m) := by rw [Bool.eq_iff_iff, beq_iff_eq, beq_iff_eq]; omega
  have h1 : decide ((1 : Int) ≤ (n : Int)) = decide (1 ≤ n) := by rw [decide_eq_decide]; omega
  have h4 : decide ((n : Int) ≤ 4) = decide (n ≤ 4) := by rw [decide_eq_decide]; omega
  go_enter Tryz.func45, Tryz.ntmps45
  cases hb : n == m
  · rw [hb] at hnm
    go_wp2
    go_ret
    exact ⟨rfl, rfl⟩
  · rw [hb] at hnm
    by_cases g1 : 1 ≤ n
    · rw [decide_eq_true g1] at h1 ⊢
      go_wp2
      go_ret
      exact ⟨rfl, rfl⟩
    · rw [decide_eq_false g1] at h1 ⊢
      go_wp2
      go_ret
      exact ⟨rfl, rfl⟩
def formB (n m : Nat) : Bool := n == m && (decide (1 ≤ n) && decide (n ≤ 4))
theorem formB_ok {n m : Nat} (h : formB n m = true) : n = m ∧ 1 ≤ n ∧ n ≤ 4 := by
  simpa [formB, and_assoc] using h
theorem s_formed (w : World) (L H : Option Addr) (n c m d : Nat) : Calls Tryz.prog 88 #[BoxW L H n c m d] w fun e w' => e = .returned (.bool (formB n m)) ∧ Below w.heap.size w w' :=
  (s_wellFormed w L H n c m d).mono fun e w' h => ⟨h.1, by rw [h.2]; exact (Below.refl _ _).alloc (Nat.le_refl _) _⟩
theorem r_formed (w : World) (L H : Option Addr) (n c m d : Nat) : Calls Tryz.prog 45 #[BoxW L H n c m d] w fun e w' => e = .returned (.bool (formB n m)) ∧ Below w.heap.size w w' :=
  (r_Formed w L H n c m d).mono fun e w' h => ⟨h.1, by rw [h.2]; exact (Below.refl _ _).alloc (Nat.le_refl _) _⟩
/-- Are the first k coordinates in the box? -/
def hasTo (l h v : Nat → Int) : Nat → Bool
  | 0 => true
  | k + 1 => hasTo l h v k && (decide (l k ≤ v k) && belB (v k) (h k))
theorem hasTo_le {l h v : Nat → Int} {k n : Nat} (hf : hasTo l h v k = false) (hn : k ≤ n) : hasTo l h v n = false := by
  induction n with
  | zero => obtain rfl : k = 0 := by omega
            exact hf
  | succ n ih =>
    by_cases e : k = n + 1
    · rw [← e]; exact hf
    · rw [hasTo, ih (by omega)]; rfl
def hasB (n m p : Nat) (l h v : Nat → Int) : Bool := formB n m && (p == n && hasTo l h v n)
set_option maxRecDepth 100000 in
set_option maxHeartbeats 4000000 in
theorem s_Has (w : World) (L H X : Option Addr) (n c m d p e : Nat) (l h v : Nat → Int) (hl : IntsAt w L n l) (hh : IntsAt w H m h) (hx : IntsAt w X p v) (hp : p ≤ 1000) (hn1 : n ≤ 1000) :
    Calls Tryz.prog 57 #[BoxW L H n c m d, .slice X p e] w fun e w' => e = .returned (.bool (hasB n m p l h v)) ∧ Below w.heap.size w w' := by
  have KB := Lib.hid (box_two w (.slice L n c) (.slice H m d) 45)
  have HB : Hid (Below w.heap.size w (w.alloc (.cells #[.slice L n c, .slice H m d] 45))) := (Below.refl _ _).alloc (Nat.le_refl _) _
  have HF := Lib.hid (s_formed (w.alloc (.cells #[.slice L n c, .slice H m d] 45)) L H n c m d)
  have HL := Lib.hid hl
  have HH := Lib.hid hh
  have HX := Lib.hid hx
  have HBe := Lib.hid s_below
  obtain ⟨ve, hve⟩ : ∃ ve, hasB n m p l h v = ve := ⟨_, rfl⟩
  rw [hve]
  have HV : Hid (ve = (formB n m && (p == n && hasTo l h v n))) := hve.symm
  clear hl hh hx hve
  go_enter Tryz.func57, Tryz.ntmps57
  obtain ⟨m0, m1⟩ := KB.out _ (Below.refl _ _)
  go_wp2_with fail
  clear m0 m1
  generalize w.alloc (.cells #[.slice L n c, .slice H m d] 45) = W0 at *
  refine HF.out.mono ?_
  rintro e w1 ⟨rfl, hb1⟩
  have HB1 := Lib.hid hb1
  clear hb1 HF
  obtain ⟨m0, m1⟩ := KB.out w1 HB1.out
  cases hf : formB n m
  · have HE : Hid (ve = false) := by show _ = _; rw [HV.out, hf]; rfl
    go_wp2
    go_ret
    exact ⟨by rw [HE.out]; rfl, st HB.out HB1.out⟩
  · obtain ⟨rfl, h1, h4⟩ := formB_ok hf
    have HV2 : Hid (ve = (p == n && hasTo l h v n)) := by show _ = _; rw [HV.out, hf, Bool.true_and]
    clear hf HV
    by_cases hpn : p = n
    · subst hpn
      have HV3 : Hid (ve = hasTo l h v p) := by show _ = _; rw [HV2.out, beq_self_eq_true, Bool.true_and]
      clear HV2
      go_wp2
      clear m0 m1
      go_loopw [5, 6, 20] (fun _ _ i wr => ∃ k : Nat, k ≤ p ∧ i = .int .i64 k ∧ Hid (hasTo l h v k = true) ∧ Hid (Below W0.heap.size W0 wr)) (fun _ _ i _ => p - (intOf i).toNat)
      case atStart => exact ⟨0, Nat.zero_le _, rfl, rfl, HB1.out⟩
      case round =>
        obtain ⟨k, hk, rfl, HK, HBw⟩ := hrel
        by_cases hlt : k < p
        · obtain ⟨m0, m1⟩ := KB.out wr HBw.out
          have HBB : Hid (Below w.heap.size w wr) := st HB.out HBw.out
          obtain ⟨b1, o1, rfl, _, hc1⟩ := (HL.out.below HBB.out) (by omega)
          have x0 := hc1 k hlt
          obtain ⟨b2, o2, rfl, _, hc2⟩ := (HH.out.below HBB.out) (by omega)
          have y0 := hc2 k hlt
          obtain ⟨b3, o3, rfl, _, hc3⟩ := (HX.out.below HBB.out) (by omega)
          have z0 := hc3 k hlt
          clear hc1 hc2 hc3
          have HS : Hid (hasTo l h v (k + 1) = (decide (l k ≤ v k) && belB (v k) (h k))) := by show _ = _; rw [hasTo, HK.out, Bool.true_and]
          have HFf : Hid ((decide (l k ≤ v k) && belB (v k) (h k)) = false → ve = false) := fun h9 => by rw [HV3.out]; exact hasTo_le (k := k + 1) (by rw [HS.out, h9]) (by omega)
          have HBk := Lib.hid (HBe.out (v k) (h k))
          generalize l k = x at *
          generalize h k = y at *
          generalize v k = z at *
          by_cases g1 : z < x
          · have HR := Lib.hid (HFf.out (by rw [decide_eq_false (by omega)]; rfl))
            go_wp2
            go_ret
            exact ⟨by rw [HR.out]; rfl, HBB.out⟩
          · rw [decide_eq_true (by omega : x ≤ z), Bool.true_and] at HS HFf
            cases hbz : belB z y
            · rw [hbz] at HBk
              have HR := Lib.hid (HFf.out hbz)
              clear hbz
              go_wp2_with fail
              refine (HBk.out _).mono ?_
              rintro e w2 ⟨rfl, rfl⟩
              go_wp2
              go_ret
              exact ⟨by rw [HR.out]; rfl, HBB.out⟩
            · rw [hbz] at HBk HS
              clear hbz
              go_wp2_with fail
              refine (HBk.out _).mono ?_
              rintro e w2 ⟨rfl, rfl⟩
              go_wp2
              go_roundw
              case rel => exact ⟨k + 1, by omega, by go_num, HS.out, HBw.out⟩
              case measure => simp [intOf]; omega
        · obtain rfl : k = p := by omega
          go_wp2
          go_ret
          exact ⟨by rw [HV3.out, HK.out]; rfl, st HB.out HBw.out⟩
    · have HE : Hid (ve = false) := by show _ = _; rw [HV2.out, beq_false_of_ne hpn, Bool.false_and]
      have h5 : ((p : Int) != (n : Int)) = true := by rw [bne_iff_ne]; omega
      clear hpn
      go_wp2
      go_ret
      exact ⟨by rw [HE.out]; rfl, st HB.out HB1.out⟩
end Go.Proofs.YtogmbehomilalaaGreatDoor
end

/- The reference's extents of a box, and the errors of a box that has no order. -/
section
namespace Go.Proofs.YtogmbehomilalaaGreatDoor
open Go Go.RowKit Go.Deep

/-- Bounds that are coordinates, and no more than 4096 of them. -/
def rngB (lo hi : Nat → Int) (n : Nat) : Prop := ∀ k, k < n → hi k ≤ 1073741824 ∧ lo k ≤ hi k
def fitB' (lo hi : Nat → Int) (n : Nat) : Prop := (∀ k, k < n → hi k - lo k < 4096) ∧ volO lo hi n ≤ 4096
open Classical in
/-- The error of a box's bounds. -/
noncomputable def ordX (lo hi : Nat → Int) (n : Nat) : Int := if rngB lo hi n then (if fitB' lo hi n then 0 else 9) else 3
theorem ordX_rng {lo hi : Nat → Int} {n k : Nat} (hk : k < n) (h : ¬ (hi k ≤ 1073741824 ∧ lo k ≤ hi k)) : ordX lo hi n = 3 := by
  unfold ordX
  exact if_neg fun h9 => h (h9 k hk)
theorem ordX_fit {lo hi : Nat → Int} {n : Nat} (hr : rngB lo hi n) (h : ¬ fitB' lo hi n) : ordX lo hi n = 9 := by
  unfold ordX
  rw [if_pos hr, if_neg h]
theorem ordX_ok {lo hi : Nat → Int} {n : Nat} (hr : rngB lo hi n) (h : fitB' lo hi n) : ordX lo hi n = 0 := by
  unfold ordX
  rw [if_pos hr, if_pos h]
theorem ordX_zero {lo hi : Nat → Int} {n : Nat} (h : ordX lo hi n = 0) : rngB lo hi n ∧ fitB' lo hi n := by
  unfold ordX at h
  split at h
  · split at h
    · exact ⟨by assumption, by assumption⟩
    · cases h
  · cases h
theorem bel_dN {B : Nat} {a w : World} (h : Below B a w) (n : Nat) : Below B a (w.drewN n) := ⟨h.os, h.tape, h.output, h.size, h.block⟩
def I64 (x : Int) : Prop := -9223372036854775808 ≤ x ∧ x ≤ 9223372036854775807
/-- The extents, or an error. -/
def ExtX (lo hi : Nat → Int) (n : Nat) (e : Ending) (w' : World) : Prop :=
  ordX lo hi n ≠ 0 ∧ e = .returned (.tuple #[.slice none 0 0, .int .i64 (ordX lo hi n)]) ∨ ordX lo hi n = 0 ∧ ∃ P c, e = .returned (.tuple #[.slice P n c, .int .i64 0]) ∧ IntsAt w' P n fun k => hi k - lo k + 1

theorem vol_wrap {V V2 mo : Nat} (h : V ≤ 4096) (h2 : mo < 4096) (h3 : V2 = V * (mo + 1)) : IntKind.i64.wrap ((V : Int) * ((mo : Int) + 1)) = ((V2 : Nat) : Int) := by
  have h9 : V2 ≤ 16777216 := by rw [h3]; exact Nat.le_trans (Nat.mul_le_mul h (show mo + 1 ≤ 4096 by omega)) (by decide)
  have h8 : (V : Int) * ((mo : Int) + 1) = (V2 : Int) := by rw [h3, Int.natCast_mul]; rfl
  rw [h8, w64 (by omega) (by omega)]
set_option maxRecDepth 100000 in
set_option maxHeartbeats 8000000 in
theorem r_extents (w : World) (L H : Option Addr) (n c d : Nat) (lo hi : Nat → Int) (hl : IntsAt w L n lo) (hh : IntsAt w H n hi) (h4 : n ≤ 4) (hb : ∀ k, k < n → I64 (lo k) ∧ I64 (hi k)) :
    Calls Tryz.prog 52 #[BoxW L H n c n d] w fun e w' => ExtX lo hi n e w' ∧ Below w.heap.size w w' := by
  have HLo := Lib.hid hl
  have HHi := Lib.hid hh
  have HB := Lib.hid hb
  have KB := Lib.hid (box_two w (.slice L n c) (.slice H n d) 45)
  have HBx : Hid (Below w.heap.size w (w.alloc (.cells #[.slice L n c, .slice H n d] 45))) := (Below.refl _ _).alloc (Nat.le_refl _) _
  clear hl hh hb
  go_enter Tryz.func52, Tryz.ntmps52
  go_wp2_with fail
  generalize w.alloc (.cells #[.slice L n c, .slice H n d] 45) = w0 at *
  go_loopw [4] (fun i wr => ∃ k : Nat, k ≤ n ∧ i = .int .i64 k ∧ Hid (Below w0.heap.size w0 wr) ∧ Hid (∀ j, j < k → hi j ≤ 1073741824 ∧ lo j ≤ hi j)) (fun i _ => n - (intOf i).toNat)
  case atStart => exact ⟨0, Nat.zero_le _, rfl, Below.refl _ _, fun j hj => absurd hj (by omega)⟩
  case round =>
    obtain ⟨k, hk, rfl, HBq, HR⟩ := hrel
    obtain ⟨m0, m1⟩ := KB.out wr HBq.out
    have HBw : Hid (Below w.heap.size w wr) := st HBx.out HBq.out
    by_cases hlt : k < n
    · obtain ⟨b1, o1, rfl, _, hc1⟩ := (HHi.out.below HBw.out) (by omega)
      have x0 := hc1 k hlt
      obtain ⟨b2, o2, rfl, _, hc2⟩ := (HLo.out.below HBw.out) (by omega)
      have y0 := hc2 k hlt
      clear hc1 hc2
      have HN : Hid (¬ (hi k ≤ 1073741824 ∧ lo k ≤ hi k) → ordX lo hi n = 3) := fun h => ordX_rng hlt h
      have HS : Hid (hi k ≤ 1073741824 ∧ lo k ≤ hi k → ∀ j, j < k + 1 → hi j ≤ 1073741824 ∧ lo j ≤ hi j) := fun h j hj => by
        by_cases e : j = k
        · subst e; exact h
        · exact HR.out j (by omega)
      generalize lo k = x at *
      generalize hi k = y at *
      by_cases g1 : y ≥ 1073741825
      · have HE := Lib.hid (HN.out (by omega))
        go_wp2_with fail
        go_quiet (fail)
        go_wp2
        go_ret2
        exact ⟨.inl ⟨by rw [HE.out]; decide, by rw [HE.out]; rfl⟩, bel_dN HBw.out _⟩
      · by_cases g2 : x > y
        · have HE := Lib.hid (HN.out (by omega))
          go_wp2_with fail
          go_quiet (fail)
          go_wp2
          go_ret2
          exact ⟨.inl ⟨by rw [HE.out]; decide, by rw [HE.out]; rfl⟩, bel_dN HBw.out _⟩
        · have HS2 := Lib.hid (HS.out (by omega))
          go_wp2_with fail
          go_quiet (fail)
          go_wp2
          exact ⟨⟨k + 1, by omega, by go_num, bel_dN HBq.out _, HS2⟩, by simp [intOf]; omega⟩
    · obtain rfl : k = n := by omega
      have HRg : Hid (rngB lo hi k) := HR.out
      obtain ⟨wq, hwq⟩ : ∃ wq, wq = wr := ⟨_, rfl⟩
      rw [← hwq] at m0 m1 HBw HBq
      rw [← hwq]
      clear hwq
      have KB2 : Hid (∀ W, Below wq.heap.size wq W → W.cell? ⟨w.heap.size, 0, none⟩ = some (.slice L k c) ∧ W.cell? ⟨w.heap.size, 1, none⟩ = some (.slice H k d)) := fun W hW => KB.out W (st HBq.out hW)
      go_wp2_with fail
      go_loopw [5, 6, 7, 8] (fun v z i _ wr => ∃ j : Nat, j ≤ k ∧ i = .int .i64 j ∧ z = .int .i64 (volO lo hi j : Nat) ∧ Hid (volO lo hi j ≤ 4096) ∧ Hid (OwnI wr wq.heap.size v j fun t => hi t - lo t + 1) ∧ Hid (Below wq.heap.size wq wr) ∧ Hid (∀ t, t < j → hi t - lo t < 4096)) (fun _ _ i _ _ => k - (intOf i).toNat)
      case atStart => exact ⟨0, Nat.zero_le _, rfl, rfl, by show (1 : Nat) ≤ 4096; decide, OwnI.nil _ _ _, Below.refl _ _, fun t ht => absurd ht (by omega)⟩
      case round =>
        obtain ⟨j, hj, rfl, rfl, HV, HO, HBr, HT⟩ := hrel
        clear m0 m1
        obtain ⟨m0, m1⟩ := KB2.out wr HBr.out
        obtain ⟨P, pc, rfl, hpi⟩ := HO.out.ints
        have HPI := Lib.hid hpi
        clear hpi
        by_cases hlt : j < k
        · have HBw2 : Hid (Below w.heap.size w wr) := st HBw.out HBr.out
          obtain ⟨b1, o1, rfl, _, hc1⟩ := (HHi.out.below HBw2.out) (by omega)
          have x0 := hc1 j hlt
          obtain ⟨b2, o2, rfl, _, hc2⟩ := (HLo.out.below HBw2.out) (by omega)
          have y0 := hc2 j hlt
          clear hc1 hc2
          obtain ⟨f1, f2⟩ := HRg.out j hlt
          obtain ⟨⟨f3, _⟩, _⟩ := HB.out j hlt
          obtain ⟨mo, hmo⟩ : ∃ mo : Nat, (mo : Int) = hi j - lo j := ⟨(hi j - lo j).toNat, by omega⟩
          have HVs : Hid (volO lo hi (j + 1) = volO lo hi j * (mo + 1)) := by show _ = _; rw [volO, show (hi j - lo j + 1).toNat = mo + 1 by omega]
          have HF1 : Hid (¬ mo < 4096 → ordX lo hi k = 9) := fun h => ordX_fit HRg.out fun h9 => by have := h9.1 j hlt; omega
          have HF2 : Hid (¬ volO lo hi (j + 1) ≤ 4096 → ordX lo hi k = 9) := fun h => ordX_fit HRg.out fun h9 => h (Nat.le_trans (volO_le (fun t ht => (HRg.out t ht).2) (k - (j + 1)) (j + 1) (by omega)) h9.2)
          have HT2 : Hid (mo < 4096 → ∀ t, t < j + 1 → hi t - lo t < 4096) := fun h t ht => by
            by_cases e : t = j
            · subst e; omega
            · exact HT.out t (by omega)
          have HD : Hid (∀ t, t = j → hi t - lo t + 1 = (mo : Int) + 1) := fun t ht => by subst ht; omega
          have hvl := HV.out
          generalize hV2 : volO lo hi (j + 1) = V2 at *
          have HV2 := Lib.hid hV2
          clear hV2
          generalize volO lo hi j = V at *
          generalize lo j = x at *
          generalize hi j = y at *
          have hus : IntKind.u64.wrap (IntKind.u64.wrap y - IntKind.u64.wrap x) = (mo : Int) := usub f3 f1 f2 hmo
          by_cases g3 : mo < 4096
          · have g3' : ¬ (mo : Int) ≥ 4096 := by omega
            have hw1 : IntKind.i64.wrap (y - x) = (mo : Int) := by rw [w64 (n := y - x) (by omega) (by omega)]; omega
            have hw2 : IntKind.i64.wrap ((mo : Int) + 1) = (mo : Int) + 1 := w64 (by omega) (by omega)
            have HM : Hid (IntKind.i64.wrap ((V : Int) * ((mo : Int) + 1)) = ((V2 : Nat) : Int)) := vol_wrap hvl (by omega) HVs.out
            clear hmo
            go_wp2_with fail
            go_quiet (fail)
            have HB2 : Hid (Below wq.heap.size wq (wr.drewN nq)) := bel_dN HBr.out nq
            have HO2 : Hid (OwnI (wr.drewN nq) wq.heap.size (.slice P j pc) j fun t => hi t - lo t + 1) := HO.out.below (bel_dN (Below.refl _ _) nq)
            have x2 : (wr.drewN nq).cell? ⟨b1, o1 + j, none⟩ = some (.int .i64 y) := x0
            have y2 : (wr.drewN nq).cell? ⟨b2, o2 + j, none⟩ = some (.int .i64 x) := y0
            have m2 : (wr.drewN nq).cell? ⟨w.heap.size, 0, none⟩ = some (.slice (some ⟨b2, o2, none⟩) k c) := m0
            have m3 : (wr.drewN nq).cell? ⟨w.heap.size, 1, none⟩ = some (.slice (some ⟨b1, o1, none⟩) k d) := m1
            clear m0 m1 x0 y0 HBr HO hus
            generalize wr.drewN nq = w5 at *
            go_wp2_with fail
            go_quiet (fail)
            have HB3 : Hid (Below wq.heap.size wq (w5.drewN nq)) := bel_dN HB2.out nq
            have HO3 : Hid (OwnI (w5.drewN nq) wq.heap.size (.slice P j pc) j fun t => hi t - lo t + 1) := HO2.out.below (bel_dN (Below.refl _ _) nq)
            clear m2 m3 x2 y2 HB2 HO2 hw1
            generalize w5.drewN nq = w6 at *
            have hj9 : j ≤ 1000000 := by omega
            have hz6 := HB3.out.size
            have hM := HM.out
            by_cases g5 : V2 ≤ 4096
            · have g5' : ¬ (V2 : Int) > 4096 := by omega
              have HT3 := Lib.hid (HT2.out g3)
              go_wp2_with (at_builtin; refine wpList_appI rfl _ _ rfl w6 ((mo : Int) + 1) wq.heap.size (.slice P j pc) j _ rfl w6.heap.size rfl rfl HO3.out hj9 hz6 ?_; intro v8 w8 ho8 hg8 hat8; obtain ⟨P8, q8, rfl, -⟩ := ho8.ints; have HO8 := Lib.hid ho8; have HB8 : Hid (Below wq.heap.size wq w8) := HB3.out.grown hg8 hz6 (fun g hg => (HO3.out.block hg).1); clear ho8 hg8 hat8)
              refine ⟨⟨j + 1, by omega, by go_num, by rw [HV2.out], (by show _ ≤ _; rw [HV2.out]; exact g5), HO8.out.congr fun t ht => ?_, HB8, HT3⟩, by simp [intOf]; omega⟩
              unfold updZ
              split
              · rename_i e; exact (HD.out t e).symm
              · rfl
            · have g5' : (V2 : Int) > 4096 := by omega
              have HE := Lib.hid (HF2.out g5)
              go_wp2_with (at_builtin; refine wpList_appI rfl _ _ rfl w6 ((mo : Int) + 1) wq.heap.size (.slice P j pc) j _ rfl w6.heap.size rfl rfl HO3.out hj9 hz6 ?_; intro v8 w8 ho8 hg8 hat8; obtain ⟨P8, q8, rfl, -⟩ := ho8.ints; have HB8 : Hid (Below wq.heap.size wq w8) := HB3.out.grown hg8 hz6 (fun g hg => (HO3.out.block hg).1); clear ho8 hg8 hat8)
              go_ret2
              exact ⟨.inl ⟨by rw [HE.out]; decide, by rw [HE.out]; rfl⟩, st HBw.out HB8.out⟩
          · have g3' : (mo : Int) ≥ 4096 := by omega
            have HE := Lib.hid (HF1.out g3)
            clear hmo
            go_wp2_with fail
            go_quiet (fail)
            go_wp2
            go_ret2
            exact ⟨.inl ⟨by rw [HE.out]; decide, by rw [HE.out]; rfl⟩, bel_dN (st HBw.out HBr.out) _⟩
        · obtain rfl : j = k := by omega
          have HE : Hid (ordX lo hi j = 0) := ordX_ok HRg.out ⟨HT.out, HV.out⟩
          generalize volO lo hi j = V at *
          go_wp2_with fail
          go_ret2
          exact ⟨.inr ⟨HE.out, P, pc, rfl, HPI.out⟩, st HBw.out HBr.out⟩
end Go.Proofs.YtogmbehomilalaaGreatDoor
end
