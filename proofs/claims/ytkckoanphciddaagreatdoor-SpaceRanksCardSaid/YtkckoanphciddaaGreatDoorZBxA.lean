/- The keys of the row-major and of the tiled order. -/
import Derived.Test.YtkckoanphciddaaGreatDoorZSeq
import Derived.Test.YtkckoanphciddaaGreatDoorZBldK
import Derived.Test.YtkckoanphciddaaGreatDoorProg
import Derived.Test.YtkckoanphciddaaGreatDoorZInl
import Derived.Test.YtkckoanphciddaaGreatDoorZRegT
import Derived.Test.YtkckoanphciddaaGreatDoorZCmpS
import Derived.Test.YtkckoanphciddaaGreatDoorZSpH

/- The keys of the row-major and of the tiled order. -/
section
namespace Go.Proofs.YtkckoanphciddaaGreatDoor
open Go Go.RowKit Go.Deep

theorem frm_box (w : World) (L H : Value) (tile wd : Int) (W : World) (hW : Below (w.alloc (.cells #[L, H, .int .i64 tile, .int .i64 wd] 179)).heap.size (w.alloc (.cells #[L, H, .int .i64 tile, .int .i64 wd] 179)) W) :
    W.cell? ⟨w.heap.size, 0, none⟩ = some L ∧ W.cell? ⟨w.heap.size, 1, none⟩ = some H ∧ W.cell? ⟨w.heap.size, 2, none⟩ = some (.int .i64 tile) ∧ W.cell? ⟨w.heap.size, 3, none⟩ = some (.int .i64 wd) := by
  have h := (hW.block w.heap.size (by simp)).trans (heap_alloc_new w _)
  refine ⟨?_, ?_, ?_, ?_⟩ <;> (rw [cell_of_row _ _ _ _ _ _ h]; rfl)
def extB (lo hi : Nat → Int) (n : Nat) : Prop := ∀ k, k < n → -1073741824 ≤ lo k ∧ lo k ≤ hi k ∧ hi k ≤ 1073741824 ∧ hi k - lo k < 4096
set_option maxRecDepth 100000 in
set_option maxHeartbeats 1000000 in
theorem s_fextent (w : World) (L H : Option Addr) (n cl ch : Nat) (tile wd : Int) (lo hi : Nat → Int) (k : Nat) (hl : IntsAt w L n lo) (hh : IntsAt w H n hi) (hk : k < n) (hb : extB lo hi n) :
    Calls Tryz.prog 150 #[FrmV L n cl H n ch tile wd, .int .i64 k] w fun e w' => e = .returned (.int .i64 (hi k - lo k + 1)) ∧ Below w.heap.size w w' := by
  have KB := Lib.hid (frm_box w (.slice L n cl) (.slice H n ch) tile wd)
  have HB : Hid (Below w.heap.size w (w.alloc (.cells #[.slice L n cl, .slice H n ch, .int .i64 tile, .int .i64 wd] 179))) := (Below.refl _ _).alloc (Nat.le_refl _) _
  have HL := Lib.hid (hl.below HB.out)
  have HH := Lib.hid (hh.below HB.out)
  obtain ⟨q1, q2, q3, q4⟩ := hb k hk
  clear hl hh hb
  go_enter Tryz.func150, Tryz.ntmps150
  go_wp2_with fail
  generalize w.alloc (.cells #[.slice L n cl, .slice H n ch, .int .i64 tile, .int .i64 wd] 179) = W0 at *
  obtain ⟨b1, o1, rfl, h1, hc1⟩ := HL.out (by omega)
  obtain ⟨b2, o2, rfl, h2, hc2⟩ := HH.out (by omega)
  have x0 := hc1 k hk
  have y0 := hc2 k hk
  obtain ⟨m0, m1, -, -⟩ := KB.out _ (Below.refl _ _)
  clear hc1 hc2
  go_wp2_with fail
  go_quiet (fail)
  go_wp2
  go_ret
  exact ⟨rfl, drewB HB.out _⟩

/-- The number of coordinates, row by row. -/
def rmZ (lo hi xs : Nat → Int) : Nat → Int
  | 0 => 0
  | k + 1 => rmZ lo hi xs k * (hi k - lo k + 1) + (xs k - lo k)
def tlZ (lo hi xs : Nat → Int) (tile : Int) : Nat → Int
  | 0 => 0
  | k + 1 => tlZ lo hi xs tile k * (hi k - lo k + 1) + (xs k - lo k) / tile
def inB (lo hi xs : Nat → Int) (n : Nat) : Prop := ∀ k, k < n → lo k ≤ xs k ∧ xs k ≤ hi k
theorem num_next {P p e y : Int} (h0 : 0 ≤ p) (h1 : p < P) (he : 1 ≤ e) (h4 : e ≤ 4096) (hy : 0 ≤ y) (h2 : y < e) : 0 ≤ p * e ∧ 0 ≤ p * e + y ∧ p * e + y < P * e ∧ p * e + y < P * 4096 := by
  have a := Int.mul_nonneg h0 (show 0 ≤ e by omega)
  have b : (p + 1) * e ≤ P * e := Int.mul_le_mul_of_nonneg_right (by omega) (by omega)
  have c : P * e ≤ P * 4096 := Int.mul_le_mul_of_nonneg_left h4 (by omega)
  rw [Int.add_mul, Int.one_mul] at b
  omega
theorem pow_next (k : Nat) : (4096 : Int) ^ (k + 1) = 4096 ^ k * 4096 := by rw [Int.pow_succ]
theorem rmZ_bound {lo hi xs : Nat → Int} {n : Nat} (hb : extB lo hi n) (hx : inB lo hi xs n) : ∀ k, k ≤ n → 0 ≤ rmZ lo hi xs k ∧ rmZ lo hi xs k < 4096 ^ k
  | 0, _ => by show (0 : Int) ≤ 0 ∧ (0 : Int) < 4096 ^ 0; decide
  | k + 1, hk => by
    have ih := rmZ_bound hb hx k (by omega)
    have h1 := hb k (by omega)
    have h2 := hx k (by omega)
    have h3 := num_next ih.1 ih.2 (e := hi k - lo k + 1) (y := xs k - lo k) (by omega) (by omega) (by omega) (by omega)
    rw [rmZ, pow_next]
    exact ⟨h3.2.1, h3.2.2.2⟩
theorem quo_small {y e t : Int} (h0 : 0 ≤ y) (h1 : y < e) (ht : 1 ≤ t) : 0 ≤ y / t ∧ y / t < e := by
  refine ⟨Int.ediv_nonneg h0 (by omega), Int.lt_of_le_of_lt ?_ h1⟩
  exact Int.ediv_le_self _ h0
theorem tlZ_bound {lo hi xs : Nat → Int} {tile : Int} {n : Nat} (hb : extB lo hi n) (hx : inB lo hi xs n) (ht : 1 ≤ tile) : ∀ k, k ≤ n → 0 ≤ tlZ lo hi xs tile k ∧ tlZ lo hi xs tile k < 4096 ^ k
  | 0, _ => by show (0 : Int) ≤ 0 ∧ (0 : Int) < 4096 ^ 0; decide
  | k + 1, hk => by
    have ih := tlZ_bound hb hx ht k (by omega)
    have h1 := hb k (by omega)
    have h2 := hx k (by omega)
    have h4 := quo_small (y := xs k - lo k) (e := hi k - lo k + 1) (t := tile) (by omega) (by omega) ht
    have h3 := num_next ih.1 ih.2 (e := hi k - lo k + 1) (y := (xs k - lo k) / tile) (by omega) (by omega) h4.1 h4.2
    rw [tlZ, pow_next]
    exact ⟨h3.2.1, h3.2.2.2⟩
theorem pow4 {k : Nat} (h : k ≤ 4) : (4096 : Int) ^ k ≤ 281474976710656 := by
  rcases (by omega : k = 0 ∨ k = 1 ∨ k = 2 ∨ k = 3 ∨ k = 4) with rfl | rfl | rfl | rfl | rfl <;> decide
theorem key_wrap {p x l I : Int} (h : I = p + (x - l)) (h0 : 0 ≤ p) (h1 : p ≤ 1152921504606846976) (h3 : -1073741824 ≤ l) (h5 : l ≤ x) (h6 : x ≤ 1073741824) : IntKind.i64.wrap (IntKind.i64.wrap (IntKind.i64.wrap p + x) - l) = I := by
  rw [w64 (n := p) (by omega) (by omega), w64 (n := p + x) (by omega) (by omega), w64 (by omega) (by omega)]
  omega
set_option maxRecDepth 100000 in
set_option maxHeartbeats 4000000 in
theorem s_rowMajor (w : World) (L H X : Option Addr) (n cl ch cx : Nat) (tile wd : Int) (lo hi xs : Nat → Int) (hl : IntsAt w L n lo) (hh : IntsAt w H n hi) (hx : IntsAt w X n xs) (hn : n ≤ 4) (hb : extB lo hi n) (hi2 : inB lo hi xs n) :
    Calls Tryz.prog 131 #[FrmV L n cl H n ch tile wd, .slice X n cx] w fun e w' => e = .returned (.int .i64 (rmZ lo hi xs n)) ∧ Below w.heap.size w w' := by
  have KB := Lib.hid (frm_box w (.slice L n cl) (.slice H n ch) tile wd)
  have HL := Lib.hid hl
  have HX := Lib.hid hx
  have HE : Hid (∀ W k, Below w.heap.size w W → k < n → Calls Tryz.prog 150 #[FrmV L n cl H n ch tile wd, .int .i64 k] W fun e w' => e = .returned (.int .i64 (hi k - lo k + 1)) ∧ Below W.heap.size W w') := fun W k hW hk => s_fextent W L H n cl ch tile wd lo hi k (hl.below hW) (hh.below hW) hk hb
  have HN : Hid (∀ k, k ≤ n → 0 ≤ rmZ lo hi xs k ∧ rmZ lo hi xs k < 4096 ^ k) := rmZ_bound hb hi2
  have HB : Hid (extB lo hi n ∧ inB lo hi xs n) := ⟨hb, hi2⟩
  have HW0 : Hid (Below w.heap.size w (w.alloc (.cells #[.slice L n cl, .slice H n ch, .int .i64 tile, .int .i64 wd] 179))) := (Below.refl _ _).alloc (Nat.le_refl _) _
  have hz0 : (w.alloc (.cells #[.slice L n cl, .slice H n ch, .int .i64 tile, .int .i64 wd] 179)).heap.size = w.heap.size + 1 := by simp
  clear hl hh hx hb hi2
  go_enter Tryz.func131, Tryz.ntmps131
  go_wp2
  rw [hz0] at KB
  generalize w.alloc (.cells #[.slice L n cl, .slice H n ch, .int .i64 tile, .int .i64 wd] 179) = W0 at *
  have HBA : Hid (∀ W, Below (w.heap.size + 1) W0 W → Below w.heap.size w W) := fun W hW => HW0.out.trans (hW.mono (by omega))
  go_loopw [5, 6, 7, 10] (fun v _ _ i wr => ∃ k : Nat, k ≤ n ∧ i = .int .i64 k ∧ v = .int .i64 (rmZ lo hi xs k) ∧ Hid (Below (w.heap.size + 1) W0 wr)) (fun _ _ _ i _ => n - (intOf i).toNat)
  case atStart => exact ⟨0, Nat.zero_le _, rfl, rfl, (Below.refl _ _)⟩
  case round =>
    obtain ⟨k, hk, rfl, rfl, HBr⟩ := hrel
    have HBw := Lib.hid (HBA.out wr HBr.out)
    by_cases hlt : k < n
    · obtain ⟨bl, ol, rfl, hbl, hcl⟩ := (HL.out.below HBw.out) (by omega)
      obtain ⟨bx, ox, rfl, hbx, hcx⟩ := (HX.out.below HBw.out) (by omega)
      have x0 := hcx k hlt
      have HKq : Hid (∀ W, Below wr.heap.size wr W → (W.cell? ⟨w.heap.size, 0, none⟩ = some (.slice (some ⟨bl, ol, none⟩) n cl) ∧ W.cell? ⟨w.heap.size, 1, none⟩ = some (.slice H n ch) ∧ W.cell? ⟨w.heap.size, 2, none⟩ = some (.int .i64 tile) ∧ W.cell? ⟨w.heap.size, 3, none⟩ = some (.int .i64 wd)) ∧ W.cell? ⟨bl, ol + k, none⟩ = some (.int .i64 (lo k))) := fun W hW =>
        ⟨KB.out W (HBr.out.trans (hW.mono (by have := HBr.out.size; omega))), (hW.cell (p := ⟨bl, ol + k, none⟩) hbl).trans (hcl k hlt)⟩
      have HEk : Hid (∀ W, Below wr.heap.size wr W → Calls Tryz.prog 150 #[FrmV (some ⟨bl, ol, none⟩) n cl H n ch tile wd, .int .i64 k] W fun e w' => e = .returned (.int .i64 (hi k - lo k + 1)) ∧ Below W.heap.size W w') := fun W hW => HE.out W k (st HBw.out hW) hlt
      have HS : Hid (rmZ lo hi xs (k + 1) = rmZ lo hi xs k * (hi k - lo k + 1) + (xs k - lo k)) := rfl
      have HN1 := Lib.hid (HN.out (k + 1) (by omega))
      have HN0 := Lib.hid (HN.out k (by omega))
      have HP := Lib.hid (pow4 (k := k) (by omega))
      have HQ := Lib.hid (And.intro (HB.out.1 k hlt) (HB.out.2 k hlt))
      have HPB : Hid (0 ≤ rmZ lo hi xs k * (hi k - lo k + 1) ∧ rmZ lo hi xs k * (hi k - lo k + 1) ≤ 1152921504606846976) := by
        have a := num_next HN0.out.1 HN0.out.2 (e := hi k - lo k + 1) (y := 0) (by have := HQ.out; omega) (by have := HQ.out; omega) (by omega) (by have := HQ.out; omega)
        have := HP.out
        exact ⟨a.1, by have := a.2.2.2; omega⟩
      have hbnd : -9223372036854775808 ≤ hi k - lo k + 1 ∧ hi k - lo k + 1 ≤ 9223372036854775807 := by have := HQ.out; omega
      clear hcl hcx hbx HN1 HN0 HP
      have B0d : Below wr.heap.size wr wr.drew := Below.drew (Below.refl _ _)
      obtain ⟨I', hI⟩ : ∃ I', rmZ lo hi xs (k + 1) = I' := ⟨_, rfl⟩
      have HI2 := Lib.hid hI
      rw [hI] at HS
      clear hI
      generalize rmZ lo hi xs k = I at *
      generalize hi k - lo k + 1 = E at *
      obtain ⟨⟨m0, m1, m2, m3⟩, y0⟩ := HKq.out wr (Below.refl _ _)
      generalize xs k = z at *
      generalize lo k = l0 at *
      go_wp2_with fail
      go_region_held3 (fun W => (W.cell? ⟨w.heap.size, 0, none⟩ = some (.slice (some ⟨bl, ol, none⟩) n cl) ∧ W.cell? ⟨w.heap.size, 1, none⟩ = some (.slice H n ch) ∧ W.cell? ⟨w.heap.size, 2, none⟩ = some (.int .i64 tile) ∧ W.cell? ⟨w.heap.size, 3, none⟩ = some (.int .i64 wd)) ∧ W.cell? ⟨bl, ol + k, none⟩ = some (.int .i64 l0))
        (first | exact HKq.out _ B1 | exact HKq.out _ B0d | exact HKq.out _ (Below.refl _ _))
        (first
          | (go_at_call 150; refine (HEk.out _ B0d).mono ?_; rintro e w3 ⟨rfl, hb3⟩; have B1 : Below wr.heap.size wr w3 := st B0d hb3))
      all_goals
        go_wp2
        go_roundw
        case rel => exact ⟨k + 1, by omega, by go_num, (by rw [HI2.out]; have := HPB.out; have := HQ.out; exact congrArg _ (key_wrap HS.out (by omega) (by omega) (by omega) (by omega) (by omega))), HBr.out.trans (B1.mono (by have := HBr.out.size; omega))⟩
        case measure => simp [intOf]; omega
    · obtain rfl : k = n := by omega
      go_wp2
      go_ret
      exact ⟨rfl, HBw.out⟩
/-- The tiled order's key. -/
theorem ord_tile {tile : Int} (h : ordB 3 tile = true) : 1 ≤ tile ∧ tile ≤ 64 := by
  unfold ordB at h
  simpa using h
/-- The keys of the t-th coordinates. -/
def rmK (n : Nat) (lo hi : Nat → Int) (e : Nat → Nat) (t : Nat) : Int := rmZ lo hi (fun k => crdZ lo e n t k) n
def tlK (n : Nat) (lo hi : Nat → Int) (tile : Int) (e : Nat → Nat) (t : Nat) : Int := tlZ lo hi (fun k => crdZ lo e n t k) tile n * 4096 + rmZ lo hi (fun k => crdZ lo e n t k) n
end Go.Proofs.YtkckoanphciddaaGreatDoor
end

/- The keys of an order: those of the row-major order. -/
section
namespace Go.Proofs.YtkckoanphciddaaGreatDoor
open Go Go.RowKit Go.Deep

set_option maxRecDepth 100000 in
set_option maxHeartbeats 4000000 in
theorem s_keysR (w : World) (S O L H : Option Addr) (s sc o oc n c d : Nat) (tile form codec : Int) (lo hi : Nat → Int) (hl : IntsAt w L n lo) (hh : IntsAt w H n hi) (hn : n ≤ 1000)
    (hb : ∀ k, k < n → -1073741824 ≤ lo k ∧ lo k ≤ hi k ∧ hi k ≤ 1073741824) :
    Calls Tryz.prog 86 #[LayV S s sc O o oc 1 tile form codec, BoxW L H n c n d] w fun e w' => e = .returned (.func (.func 131) #[FrmV L n c H n d tile (wdTo lo hi n : Nat)] #[]) ∧ Below w.heap.size w w' := by
  have HLo := Lib.hid hl
  have HHi := Lib.hid hh
  have HB := Lib.hid hb
  clear hl hh hb
  have HBL := Lib.hid Tryz.bits_Len
  have KB := Lib.hid (lay_box w S O s sc o oc 1 tile form codec)
  have HB1 : Hid (Below w.heap.size w (w.alloc (.cells #[.slice S s sc, .slice O o oc, .int .i64 1, .int .i64 tile, .int .i64 form, .int .i64 codec] 54))) := (Below.refl _ _).alloc (Nat.le_refl _) _
  have hz1 : (w.alloc (.cells #[.slice S s sc, .slice O o oc, .int .i64 1, .int .i64 tile, .int .i64 form, .int .i64 codec] 54)).heap.size = w.heap.size + 1 := by simp
  go_enter Tryz.func86, Tryz.ntmps86
  go_wp2_with fail
  generalize w.alloc (.cells #[.slice S s sc, .slice O o oc, .int .i64 1, .int .i64 tile, .int .i64 form, .int .i64 codec] 54) = Wa at *
  have K2 := Lib.hid (box_two Wa (.slice L n c) (.slice H n d) 66)
  have HB2 : Hid (Below Wa.heap.size Wa (Wa.alloc (.cells #[.slice L n c, .slice H n d] 66))) := (Below.refl _ _).alloc (Nat.le_refl _) _
  rw [hz1] at K2 HB2 KB
  have HB3 : Hid (Below w.heap.size w (Wa.alloc (.cells #[.slice L n c, .slice H n d] 66))) := Below.trans HB1.out (HB2.out.mono (by omega))
  generalize hWb : Wa.alloc (.cells #[.slice L n c, .slice H n d] 66) = Wb at *
  have hz2 : Wb.heap.size = w.heap.size + 2 := by rw [← hWb]; simp; omega
  clear hWb
  obtain ⟨l0, l1, l2, l3, l4, l5⟩ := KB.out Wb HB2.out
  obtain ⟨m0, m1⟩ := K2.out Wb (Below.refl _ _)
  go_wp2_with fail
  have hr0 : (Wb.alloc (.cells #[.slice L n c, .slice H n d, .int .i64 tile, .int .i64 0] 179)).heap[w.heap.size + 1 + 1]? = some (.cells #[.slice L n c, .slice H n d, .int .i64 tile, .int .i64 ((0 : Nat) : Int)] 179 (0, 0)) := by
    have h := heap_alloc_new Wb (.cells #[.slice L n c, .slice H n d, .int .i64 tile, .int .i64 0] 179)
    rw [hz2] at h
    exact h
  have HB5 : Hid (Below Wb.heap.size Wb (Wb.alloc (.cells #[.slice L n c, .slice H n d, .int .i64 tile, .int .i64 0] 179))) := (Below.refl _ _).alloc (Nat.le_refl _) _
  generalize Wb.alloc (.cells #[.slice L n c, .slice H n d, .int .i64 tile, .int .i64 0] 179) = Wc at *
  clear m0 m1 l0 l1 l2 l3 l4 l5
  go_loopw [6, 7, 15] (fun _ _ i wr => ∃ k u : Nat, k ≤ n ∧ i = .int .i64 k ∧ wr.heap[w.heap.size + 1 + 1]? = some (.cells #[.slice L n c, .slice H n d, .int .i64 tile, .int .i64 (u : Int)] 179 (0, 0)) ∧ Hid (u = wdTo lo hi k) ∧ Hid (Below Wb.heap.size Wb wr)) (fun _ _ i _ => n - (intOf i).toNat)
  case atStart => exact ⟨0, 0, Nat.zero_le _, rfl, hr0, rfl, HB5.out⟩
  case round =>
    obtain ⟨k, u, hk, rfl, hrow, HU, HBr⟩ := hrel
    obtain ⟨m0, m1⟩ := K2.out wr HBr.out
    obtain ⟨l0, -, l2, -⟩ := KB.out wr (Below.trans HB2.out (HBr.out.mono (by omega)))
    have HBw : Hid (Below w.heap.size w wr) := Below.trans HB3.out (HBr.out.mono (by omega))
    obtain ⟨g0, g1, g2, g3, gz⟩ := frm_row _ _ _ _ _ _ hrow
    by_cases hlt : k < n
    · obtain ⟨b1, o1, rfl, _, hc1⟩ := (HHi.out.below HBw.out) (by omega)
      have x0 := hc1 k hlt
      obtain ⟨b2, o2, rfl, _, hc2⟩ := (HLo.out.below HBw.out) (by omega)
      have y0 := hc2 k hlt
      clear hc1 hc2
      obtain ⟨f1, f2, f3⟩ := HB.out k hlt
      obtain ⟨mo, hmo⟩ : ∃ mo : Nat, (mo : Int) = hi k - lo k := ⟨(hi k - lo k).toNat, by omega⟩
      have HR : Hid (wdTo lo hi (k + 1) = max (wdTo lo hi k) (Lib.bitLen mo)) := by show _ = _; rw [wdTo, show (hi k - lo k).toNat = mo by omega]
      rw [← HU.out] at HR
      generalize lo k = x at *
      generalize hi k = y at *
      have hsu : IntKind.i64.wrap (y - x) = y - x := w64 (by omega) (by omega)
      have HL9 : Hid (∀ W, Calls Tryz.prog 128 #[.int .u64 (IntKind.u64.wrap (y - x))] W fun e w' => e = .returned (.int .i64 (Lib.bitLen mo)) ∧ w' = W) := fun W => by
        rw [wrap_u (n := y - x) (by omega) (by omega)]
        have h := HBL.out (y - x) W (by omega) (by omega)
        rwa [← hmo, Int.toNat_natCast, hmo] at h
      clear l0 l2 g0 g1 g2
      go_wp2_with fail
      refine wp_region_still_tail 13 (by kernel_rfl) (by kernel_rfl) ?_
      simp only [List.take_succ_cons, List.take_zero, List.drop_succ_cons, List.drop_zero]
      iterate 10 still_step
      still_call (HL9.out _)
      iterate 2 still_step
      refine wpStill_nil ?_
      change wpList _ _ _ _ _ wr.drew
      have hrow2 : wr.drew.heap[w.heap.size + 1 + 1]? = some (.cells #[.slice (some ⟨b2, o2, none⟩) n c, .slice (some ⟨b1, o1, none⟩) n d, .int .i64 tile, .int .i64 (u : Int)] 179 (0, 0)) := hrow
      have HBr2 : Hid (Below Wb.heap.size Wb wr.drew) := Below.drew HBr.out
      clear g3 gz hrow HBr x0 y0 m0 m1 hsu
      generalize wr.drew = w5 at *
      obtain ⟨-, -, -, g3, gz⟩ := frm_row _ _ _ _ _ _ hrow2
      go_wp2
      have hmx : max (u : Int) (Lib.bitLen mo : Nat) = ((max u (Lib.bitLen mo) : Nat) : Int) := by omega
      exact ⟨⟨k + 1, max u (Lib.bitLen mo), by omega, by go_num, by rw [frm_set hrow2, hmx], HR.out.symm, HBr2.out.setCell (by show Wb.heap.size ≤ w.heap.size + 1 + 1; omega) _⟩, by simp [intOf]; omega⟩
    · obtain rfl : k = n := by omega
      go_wp2
      go_ret
      exact ⟨by rw [← HU.out]; rfl, HBw.out⟩
end Go.Proofs.YtkckoanphciddaaGreatDoor
end

/- The coordinates of a box in the row-major order. -/
section
namespace Go.Proofs.YtkckoanphciddaaGreatDoor
open Go Go.RowKit Go.Deep Go.Shelf

set_option maxRecDepth 100000 in
set_option maxHeartbeats 4000000 in
theorem s_SeqR (w : World) (S O L H : Option Addr) (s sc o oc n c d : Nat) (tile form codec : Int) (lo hi : Nat → Int) (e : Nat → Nat) (hl : IntsAt w L n lo) (hh : IntsAt w H n hi) (h1 : 1 ≤ n) (h4 : n ≤ 4) (ho : ordB 1 tile = true)
    (hb : ∀ k, k < n → -1073741824 ≤ lo k ∧ lo k ≤ hi k ∧ hi k ≤ 1073741824 ∧ hi k - lo k < 4096) (he : ∀ k, k < n → 1 ≤ e k ∧ hi k = lo k + e k - 1) (hv : volO lo hi n ≤ 4096) (hv2 : volC e n 0 ≤ 4096) :
    Calls Tryz.prog 34 #[LayV S s sc O o oc 1 tile form codec, BoxW L H n c n d] w fun e' w' => ∃ b, e' = .returned (.tuple #[.slice (some ⟨b, 0, none⟩) (volC e n 0) (volC e n 0), .int .i64 0]) ∧ ListsAt w' (some ⟨b, 0, none⟩) (volC e n 0) (fun _ => n) (fun t k => crdZ lo e n ((pairR (rmK n lo hi e) (volC e n 0))[t]!).2 k) ∧ Below w.heap.size w w' := by
  have hN1 : 1 ≤ volC e n 0 := volC_pos' (fun k hk => (he k hk).1) (Nat.zero_le _)
  have HOE : Hid (∀ W, Below w.heap.size w W → Calls Tryz.prog 84 #[LayV S s sc O o oc 1 tile form codec, BoxW L H n c n d, .int .i64 n] W fun e w' => e = .returned (.int .i64 0) ∧ Below W.heap.size W w') := fun W hW => s_orderError W S O L H s sc o oc n c d 1 tile form codec lo hi (hl.below hW) (hh.below hW) h1 h4 ho hb hv
  have HCO : Hid (∀ W, Calls Tryz.prog 78 #[BoxW L H n c n d] W fun e w' => ∃ Bb, e = .returned (.func (.func 124) #[] #[.pointer (some ⟨Bb, 0, none⟩)]) ∧ Below W.heap.size W w' ∧ Bb < w'.heap.size ∧ w'.heap[Bb]? = some (.cells #[.slice L n c, .slice H n d] 66 (0, 0))) := fun W => (c_coordinates W (.slice L n c) (.slice H n d)).mono fun e' w' h => by
    obtain ⟨rfl, rfl⟩ := h
    exact ⟨_, rfl, (Below.refl _ _).alloc (Nat.le_refl _) _, by simp, heap_alloc_new W _⟩
  have HKE : Hid (∀ W, Below w.heap.size w W → Calls Tryz.prog 86 #[LayV S s sc O o oc 1 tile form codec, BoxW L H n c n d] W fun e w' => e = .returned (.func (.func 131) #[FrmV L n c H n d tile (wdTo lo hi n : Nat)] #[]) ∧ Below W.heap.size W w') := fun W hW => s_keysR W S O L H s sc o oc n c d tile form codec lo hi (hl.below hW) (hh.below hW) (by omega) (fun k hk => ⟨(hb k hk).1, (hb k hk).2.1, (hb k hk).2.2.1⟩)
  have HSO : Hid (∀ W Bb W1, Below w.heap.size w W1 → Below W1.heap.size W1 W → Bb < W1.heap.size → W1.heap[Bb]? = some (.cells #[.slice L n c, .slice H n d] 66 (0, 0)) → Calls Tryz.prog 85 #[.func (.func 124) #[] #[.pointer (some ⟨Bb, 0, none⟩)], .func (.func 131) #[FrmV L n c H n d tile (wdTo lo hi n : Nat)] #[], .func (.func 87) #[] #[]] W fun e' w' => ∃ b, e' = .returned (.slice (some ⟨b, 0, none⟩) (volC e n 0) (volC e n 0)) ∧ ListsAt w' (some ⟨b, 0, none⟩) (volC e n 0) (fun _ => n) (fun t k => crdZ lo e n ((pairR (rmK n lo hi e) (volC e n 0))[t]!).2 k) ∧ Below W.heap.size W w') := fun W Bb W1 hW1 hW hB hBb => by
    have hWw : Below w.heap.size w W := hW1.trans (hW.mono hW1.size)
    obtain ⟨bl, ol, rfl, hbl, hcl⟩ := (hl.below hWw) (by omega)
    obtain ⟨bh, oh, rfl, hbh, hch⟩ := (hh.below hWw) (by omega)
    have hb2 : W.heap[Bb]? = _ := (hW.block Bb hB).trans hBb
    have hB2 : Bb < W.heap.size := Nat.lt_of_lt_of_le hB hW.size
    refine (c_sorted W _ _ (enters_of Tryz.func124 (by kernel_rfl) rfl) (N := volC e n 0) (by omega) hN1
      (fun m hm => crd_iter m hm Bb bl ol c bh oh d n lo hi e h1 (by omega) (fun k hk => ⟨(he k hk).1, (he k hk).2, (hb k hk).1, by have := (hb k hk).2.2.1; omega⟩)) (crd_elem n lo e) (fun A t v W h => by obtain ⟨b, c, g, h, _⟩ := h; exact ⟨_, _, _, h⟩)
      (fun U hU => ?_) 131 _ (enters_of Tryz.func131 (by kernel_rfl) rfl) (rmK n lo hi e) ?_).mono ?_
    · have hU2 := (hU.block Bb hB2).trans hb2
      exact ⟨by rw [cell_of_row _ _ _ _ _ _ hU2]; rfl, by rw [cell_of_row _ _ _ _ _ _ hU2]; rfl, fun k hk => ⟨(hU.cell (p := ⟨bl, ol + k, none⟩) hbl).trans (hcl k hk), (hU.cell (p := ⟨bh, oh + k, none⟩) hbh).trans (hch k hk)⟩⟩
    · intro A t v U ht hv hU
      obtain ⟨P, cc, rfl, hP⟩ := crd_ints hv
      have hUw : Below w.heap.size w U := hWw.trans (hU.mono hWw.size)
      exact (s_rowMajor U (some ⟨bl, ol, none⟩) (some ⟨bh, oh, none⟩) P n c d cc tile _ lo hi _ (hl.below hUw) (hh.below hUw) hP h4 hb (fun k hk => by
        have hd := digC_lt (t := t) (fun k hk => (he k hk).1) hk
        have hk1 := he k hk
        unfold crdZ
        omega)).mono fun e9 w9 h9 => h9
    · rintro e' w' ⟨b, A, xs, rfl, q1, q2, q3, q4⟩
      refine ⟨b, rfl, fun _ => ⟨b, 0, rfl, q2.lt, fun k hk => ?_⟩, q4⟩
      obtain ⟨P, cc, hx, hP⟩ := crd_ints (q3 _ (pairR_lt (rmK n lo hi e) (volC e n 0) k hk))
      exact ⟨P, cc, by rw [Nat.zero_add, q2.cell hk, hx], hP, by show n ≤ 1000000; omega⟩
  have KB := Lib.hid (lay_box w S O s sc o oc 1 tile form codec)
  have HB1 : Hid (Below w.heap.size w (w.alloc (.cells #[.slice S s sc, .slice O o oc, .int .i64 1, .int .i64 tile, .int .i64 form, .int .i64 codec] 54))) := (Below.refl _ _).alloc (Nat.le_refl _) _
  have hz1 : (w.alloc (.cells #[.slice S s sc, .slice O o oc, .int .i64 1, .int .i64 tile, .int .i64 form, .int .i64 codec] 54)).heap.size = w.heap.size + 1 := by simp
  generalize rmK n lo hi e = ky at *
  generalize wdTo lo hi n = wd at *
  generalize volC e n 0 = N at *
  clear hl hh h1 h4 ho hb he hv hv2 hN1
  go_enter Tryz.func34, Tryz.ntmps34
  go_wp2_with fail
  generalize w.alloc (.cells #[.slice S s sc, .slice O o oc, .int .i64 1, .int .i64 tile, .int .i64 form, .int .i64 codec] 54) = Wa at *
  have K2 := Lib.hid (box_two Wa (.slice L n c) (.slice H n d) 66)
  have HB2 : Hid (Below Wa.heap.size Wa (Wa.alloc (.cells #[.slice L n c, .slice H n d] 66))) := (Below.refl _ _).alloc (Nat.le_refl _) _
  rw [hz1] at K2 HB2 KB
  have HB3 : Hid (Below w.heap.size w (Wa.alloc (.cells #[.slice L n c, .slice H n d] 66))) := Below.trans HB1.out (HB2.out.mono (by omega))
  generalize hWb : Wa.alloc (.cells #[.slice L n c, .slice H n d] 66) = Wb at *
  have hz2 : Wb.heap.size = w.heap.size + 2 := by rw [← hWb]; simp; omega
  clear hWb
  have KK : Hid (∀ W, Below Wb.heap.size Wb W → (W.cell? ⟨w.heap.size, 0, none⟩ = some (.slice S s sc) ∧ W.cell? ⟨w.heap.size, 1, none⟩ = some (.slice O o oc) ∧ W.cell? ⟨w.heap.size, 2, none⟩ = some (.int .i64 1) ∧ W.cell? ⟨w.heap.size, 3, none⟩ = some (.int .i64 tile) ∧ W.cell? ⟨w.heap.size, 4, none⟩ = some (.int .i64 form) ∧ W.cell? ⟨w.heap.size, 5, none⟩ = some (.int .i64 codec)) ∧ W.cell? ⟨w.heap.size + 1, 0, none⟩ = some (.slice L n c) ∧ W.cell? ⟨w.heap.size + 1, 1, none⟩ = some (.slice H n d)) := fun W hW => ⟨KB.out W (Below.trans HB2.out (hW.mono (by omega))), K2.out W hW⟩
  clear KB K2 HB1 HB2
  obtain ⟨⟨l0, l1, l2, l3, l4, l5⟩, m0, m1⟩ := KK.out Wb (Below.refl _ _)
  go_wp2_with (first
    | (go_at_call 84; refine (HOE.out _ HB3.out).mono ?_; rintro e w1 ⟨rfl, hb1⟩; obtain ⟨⟨l0, l1, l2, l3, l4, l5⟩, m0, m1⟩ := KK.out w1 hb1))
  clear l0 l1 l2 l3 l4 l5 m0 m1
  have B0 : Below w.heap.size w w1 := st HB3.out hb1
  have KC : Hid (∀ W, Below w1.heap.size w1 W → (W.cell? ⟨w.heap.size, 0, none⟩ = some (.slice S s sc) ∧ W.cell? ⟨w.heap.size, 1, none⟩ = some (.slice O o oc) ∧ W.cell? ⟨w.heap.size, 2, none⟩ = some (.int .i64 1) ∧ W.cell? ⟨w.heap.size, 3, none⟩ = some (.int .i64 tile) ∧ W.cell? ⟨w.heap.size, 4, none⟩ = some (.int .i64 form) ∧ W.cell? ⟨w.heap.size, 5, none⟩ = some (.int .i64 codec)) ∧ W.cell? ⟨w.heap.size + 1, 0, none⟩ = some (.slice L n c) ∧ W.cell? ⟨w.heap.size + 1, 1, none⟩ = some (.slice H n d)) := fun W hW => KK.out W (hb1.trans (hW.mono hb1.size))
  have B0d : Below w1.heap.size w1 w1.drew := Below.drew (Below.refl _ _)
  clear KK HB3
  go_region_held3 (fun W => (W.cell? ⟨w.heap.size, 0, none⟩ = some (.slice S s sc) ∧ W.cell? ⟨w.heap.size, 1, none⟩ = some (.slice O o oc) ∧ W.cell? ⟨w.heap.size, 2, none⟩ = some (.int .i64 1) ∧ W.cell? ⟨w.heap.size, 3, none⟩ = some (.int .i64 tile) ∧ W.cell? ⟨w.heap.size, 4, none⟩ = some (.int .i64 form) ∧ W.cell? ⟨w.heap.size, 5, none⟩ = some (.int .i64 codec)) ∧ W.cell? ⟨w.heap.size + 1, 0, none⟩ = some (.slice L n c) ∧ W.cell? ⟨w.heap.size + 1, 1, none⟩ = some (.slice H n d))
    (first | exact KC.out _ (st (st hb2 hb3) hb4) | exact KC.out _ (st hb2 hb3) | exact KC.out _ hb2 | exact KC.out _ B0d | exact KC.out _ (Below.refl _ _))
    (first
      | (go_at_call 78; refine (HCO.out _).mono ?_; rintro e w2 ⟨Bb, rfl, hb2', hk2, hk3⟩; have hb2 : Below w1.heap.size w1 w2 := st B0d hb2')
      | (go_at_call 86; refine (HKE.out _ (st B0 hb2)).mono ?_; rintro e w3 ⟨rfl, hb3⟩)
      | (go_at_call 85; refine (HSO.out _ Bb w2 (st B0 hb2) hb3 hk2 hk3).mono ?_; rintro e w4 ⟨b, rfl, hL, hb4⟩))
  all_goals
    go_wp2
    go_ret2
    exact ⟨b, rfl, hL, st B0 (st (st hb2 hb3) hb4)⟩
end Go.Proofs.YtkckoanphciddaaGreatDoor
end

/- How many numbers are asked for, and which. -/
section
namespace Go.Proofs.YtkckoanphciddaaGreatDoor

/-- How many numbers below k are asked for, and the one at a place. -/
def cntTo (p : Nat → Bool) (k : Nat) : Nat := ((List.range k).filter p).length
def pickI (p : Nat → Bool) (N j : Nat) : Nat := ((List.range N).filter p).getD j 0
theorem filt_succ (p : Nat → Bool) (k : Nat) : (List.range (k + 1)).filter p = (List.range k).filter p ++ (if p k = true then [k] else []) := by
  rw [List.range_succ, List.filter_append]
  cases h : p k <;> simp [h]
theorem cntTo_yes {p : Nat → Bool} {k : Nat} (h : p k = true) : cntTo p (k + 1) = cntTo p k + 1 := by simp [cntTo, filt_succ, h]
theorem cntTo_no {p : Nat → Bool} {k : Nat} (h : p k = false) : cntTo p (k + 1) = cntTo p k := by simp [cntTo, filt_succ, h]
theorem cntTo_le (p : Nat → Bool) (k : Nat) : cntTo p k ≤ k := by
  have := List.length_filter_le p (List.range k)
  simpa [cntTo] using this
theorem cntTo_mono (p : Nat → Bool) {k m : Nat} (h : k ≤ m) : cntTo p k ≤ cntTo p m := by
  induction m with
  | zero => obtain rfl : k = 0 := by omega
            exact Nat.le_refl _
  | succ m ih =>
    by_cases e : k = m + 1
    · rw [e]; exact Nat.le_refl _
    · refine Nat.le_trans (ih (by omega)) ?_
      cases h : p m
      · rw [cntTo_no h]; exact Nat.le_refl _
      · rw [cntTo_yes h]; exact Nat.le_succ _
theorem pickI_at {p : Nat → Bool} {N k : Nat} (hk : k < N) (hp : p k = true) : pickI p N (cntTo p k) = k := by
  induction N with
  | zero => omega
  | succ N ih =>
    unfold pickI
    rw [filt_succ]
    by_cases e : k = N
    · subst e
      simp [hp, cntTo, List.getD_eq_getElem?_getD]
    · have h1 : cntTo p k < cntTo p N := by
        have := cntTo_mono p (show k + 1 ≤ N by omega)
        rw [cntTo_yes hp] at this
        omega
      have h2 := ih (by omega)
      unfold pickI at h2
      rw [List.getD_eq_getElem?_getD] at h2 ⊢
      rw [List.getElem?_append_left (show cntTo p k < ((List.range N).filter p).length from h1)]
      exact h2
theorem pickI_mem {p : Nat → Bool} {N j : Nat} (hj : j < cntTo p N) : pickI p N j < N ∧ p (pickI p N j) = true := by
  have h : pickI p N j ∈ (List.range N).filter p := by
    unfold pickI
    rw [List.getD_eq_getElem?_getD, List.getElem?_eq_getElem (show j < ((List.range N).filter p).length from hj)]
    exact List.getElem_mem _
  rw [List.mem_filter, List.mem_range] at h
  exact h
end Go.Proofs.YtkckoanphciddaaGreatDoor
end

/- The sorted pairs: each of them once, in the order of their keys. -/
section
namespace Go.Proofs.YtkckoanphciddaaGreatDoor
open Go Go.RowKit Go.Deep Go.Shelf Go.Lib Go.Sort

theorem pair_facts (ky : Nat → Int) (N : Nat) : (pairR ky N).size = N ∧ (pairR ky N).toList.Perm (pairD ky N).toList ∧ ∀ i j, i < j → j < N → ((pairR ky N)[i]!).1 ≤ ((pairR ky N)[j]!).1 := by
  have hds : (pairD ky N).size = N := by simp [pairD]
  obtain ⟨⟨h1, _, h3⟩, h4⟩ := pdq_sorts (ltOf fun x y : Int × Nat => Lib.compareInt x.1 y.1) swo_key (pairD ky N) 0 N (Lib.bitLen N) true true (Nat.zero_le _) (by rw [hds]; exact Nat.le_refl _) (Or.inl rfl)
  have hs : (pairR ky N).size = N := h1.trans hds
  refine ⟨hs, ?_, fun i j hij hj => ?_⟩
  · have e1 : (pdq (ltOf fun x y : Int × Nat => Lib.compareInt x.1 y.1) (pairD ky N) 0 N (Lib.bitLen N) true true).extract 0 N = pairR ky N := by
      have : (pairR ky N).extract 0 N = pairR ky N := by
        conv => lhs; rw [← hs]
        rw [hs]
        simp [hs]
      exact this
    have e2 : (pairD ky N).extract 0 N = pairD ky N := by simp [hds]
    rw [e1, e2] at h3
    exact h3
  · have h := h4 i j (Nat.zero_le _) hij hj
    rw [lt_key] at h
    have := of_decide_eq_false h
    exact Int.not_lt.1 this
theorem pairD_list (ky : Nat → Int) (N : Nat) : (pairD ky N).toList = (List.range N).map fun t => (ky t, t) := by simp [pairD]
theorem pair_get {ky : Nat → Int} {N j : Nat} (hj : j < (pairR ky N).toList.length) : (pairR ky N).toList[j] = (pairR ky N)[j]! := by
  simp at hj
  simp [hj]
/-- As many keys are less than that of the i-th pair as pairs stand ahead of it. -/
theorem rank_at {ky : Nat → Int} {N : Nat} (hinj : ∀ s t, s < N → t < N → ky s = ky t → s = t) {i : Nat} (hi : i < N) : cntTo (fun t => decide (ky t < ky ((pairR ky N)[i]!).2)) N = i := by
  obtain ⟨hs, hp, hle⟩ := pair_facts ky N
  have hlen : (pairR ky N).toList.length = N := by simpa using hs
  have hk : ∀ j, j < N → ((pairR ky N)[j]!).1 = ky ((pairR ky N)[j]!).2 ∧ ((pairR ky N)[j]!).2 < N := fun j hj => by
    obtain ⟨t, ht, e⟩ := pairR_of ky N j hj
    rw [e]; exact ⟨rfl, ht⟩
  have hnd : (pairR ky N).toList.Nodup := by
    refine hp.nodup_iff.2 ?_
    rw [pairD_list]
    refine List.Pairwise.map _ (fun a b h e => h ?_) (List.nodup_range (n := N))
    exact congrArg Prod.snd e
  have hne : ∀ a b, a < b → b < N → ((pairR ky N)[a]!).1 ≠ ((pairR ky N)[b]!).1 := fun a b hab hb e => by
    rw [(hk a (by omega)).1, (hk b hb).1] at e
    have e2 := hinj _ _ (hk a (by omega)).2 (hk b hb).2 e
    have e3 : (pairR ky N)[a]! = (pairR ky N)[b]! := Prod.ext (by rw [(hk a (by omega)).1, (hk b hb).1, e2]) e2
    have := List.pairwise_iff_getElem.1 hnd a b (by omega) (by omega) hab
    rw [pair_get, pair_get] at this
    exact this e3
  have hlt : ∀ a b, a < b → b < N → ((pairR ky N)[a]!).1 < ((pairR ky N)[b]!).1 := fun a b hab hb => by
    have h1 := hle a b hab hb
    have h2 := hne a b hab hb
    omega
  have own := (hk i hi).1
  have hc : cntTo (fun t => decide (ky t < ky ((pairR ky N)[i]!).2)) N = (pairR ky N).toList.countP fun x => decide (x.1 < ((pairR ky N)[i]!).1) := by
    rw [hp.countP_eq, pairD_list, List.countP_map, List.countP_eq_length_filter, own]
    rfl
  rw [hc]
  have hsplit : (pairR ky N).toList = (pairR ky N).toList.take i ++ (pairR ky N).toList.drop i := (List.take_append_drop _ _).symm
  rw [hsplit, List.countP_append]
  have h1 : ((pairR ky N).toList.take i).countP (fun x => decide (x.1 < ((pairR ky N)[i]!).1)) = i := by
    have : ((pairR ky N).toList.take i).countP (fun x => decide (x.1 < ((pairR ky N)[i]!).1)) = ((pairR ky N).toList.take i).length := by
      rw [List.countP_eq_length]
      intro x hx
      obtain ⟨j, hj, rfl⟩ := List.getElem_of_mem hx
      rw [List.getElem_take]
      rw [List.length_take] at hj
      rw [pair_get]
      exact decide_eq_true (hlt j i (by omega) hi)
    rw [this, List.length_take]
    omega
  have h2 : ((pairR ky N).toList.drop i).countP (fun x => decide (x.1 < ((pairR ky N)[i]!).1)) = 0 := by
    rw [List.countP_eq_zero]
    intro x hx
    obtain ⟨j, hj, rfl⟩ := List.getElem_of_mem hx
    rw [List.getElem_drop, pair_get]
    rw [List.length_drop] at hj
    simp only [decide_eq_true_eq]
    by_cases e : j = 0
    · subst e; simp
    · have := hlt i (i + j) (by omega) (by omega)
      omega
  rw [h1, h2, Nat.add_zero]
end Go.Proofs.YtkckoanphciddaaGreatDoor
end

/- An abstract frame as a list of its slots. -/
section
namespace Go.Proofs.YtkckoanphciddaaGreatDoor
open Go Go.RowKit Go.Deep

theorem actlitf (n : Nat) (a : Act) (h : a.tmps.size = n) (hd : a.defers = []) : ∃ f : Nat → Value, (∀ t, a.tmps[t]?.getD undef = f t) ∧ a = ⟨((List.range n).map f).toArray, []⟩ := by
  refine ⟨fun t => a.tmps[t]?.getD undef, fun t => rfl, ?_⟩
  obtain ⟨tm, df⟩ := a
  have h' : tm.size = n := h
  have hd' : df = [] := hd
  subst hd'
  have e : tm = ((List.range n).map fun t => tm[t]?.getD undef).toArray := by
    apply Array.ext
    · simpa using h'
    · intro i h1 h2
      simp [h1]
  exact congrArg (fun x => (⟨x, []⟩ : Act)) e
end Go.Proofs.YtkckoanphciddaaGreatDoor
end

/- Boxes: what is in them; the reference's too. -/
section
namespace Go.Proofs.YtkckoanphciddaaGreatDoor
open Go Go.RowKit Go.Deep

def belB (x hi : Int) : Bool := decide (x ≤ hi) || decide (1073741825 ≤ hi)
theorem s_below (x hi : Int) (w : World) : Calls Tryz.prog 96 #[.int .i64 x, .int .i64 hi] w fun e w' => e = .returned (.bool (belB x hi)) ∧ w' = w := by
  have HE : Hid (belB x hi = (decide (x ≤ hi) || decide (1073741825 ≤ hi))) := rfl
  go_enter Tryz.func96, Tryz.ntmps96
  by_cases g1 : x ≤ hi
  · rw [decide_eq_true g1] at HE
    go_wp2
    go_ret
    exact ⟨by rw [HE.out]; rfl, rfl⟩
  · rw [decide_eq_false g1] at HE
    by_cases g2 : hi ≥ 1073741825
    · have g3 : (1073741825 : Int) ≤ hi := g2
      rw [decide_eq_true g3] at HE
      go_wp2
      go_ret
      exact ⟨by rw [HE.out]; rfl, rfl⟩
    · have g3 : ¬ (1073741825 : Int) ≤ hi := g2
      rw [decide_eq_false g3] at HE
      go_wp2
      go_ret
      exact ⟨by rw [HE.out]; rfl, rfl⟩
theorem r_below (x hi : Int) (w : World) : Calls Tryz.prog 125 #[.int .i64 x, .int .i64 hi] w fun e w' => e = .returned (.bool (belB x hi)) ∧ w' = w := by
  have HE : Hid (belB x hi = (decide (x ≤ hi) || decide (1073741825 ≤ hi))) := rfl
  go_enter Tryz.func125, Tryz.ntmps125
  by_cases g2 : hi ≥ 1073741825
  · have g3 : (1073741825 : Int) ≤ hi := g2
    rw [decide_eq_true g3, Bool.or_true] at HE
    go_wp2
    go_ret
    exact ⟨by rw [HE.out]; rfl, rfl⟩
  · have g3 : ¬ (1073741825 : Int) ≤ hi := g2
    rw [decide_eq_false g3, Bool.or_false] at HE
    by_cases g1 : x ≤ hi
    · rw [decide_eq_true g1] at HE
      go_wp2
      go_ret
      exact ⟨by rw [HE.out]; rfl, rfl⟩
    · rw [decide_eq_false g1] at HE
      go_wp2
      go_ret
      exact ⟨by rw [HE.out]; rfl, rfl⟩
theorem r_Formed (w : World) (L H : Option Addr) (n c m d : Nat) : Calls Tryz.prog 83 #[BoxW L H n c m d] w fun e w' => e = .returned (.bool (n == m && (decide (1 ≤ n) && decide (n ≤ 4)))) ∧ w' = w.alloc (.cells #[.slice L n c, .slice H m d] 66) := by
  obtain ⟨l0, l1⟩ := box_two w (.slice L n c) (.slice H m d) 66 _ (Below.refl _ _)
  have hnm : ((n : Int) == (m : Int)) = (n == m) := by rw [Bool.eq_iff_iff, beq_iff_eq, beq_iff_eq]; omega
  have h1 : decide ((1 : Int) ≤ (n : Int)) = decide (1 ≤ n) := by rw [decide_eq_decide]; omega
  have h4 : decide ((n : Int) ≤ 4) = decide (n ≤ 4) := by rw [decide_eq_decide]; omega
  go_enter Tryz.func83, Tryz.ntmps83
  cases hb : n == m
  · rw [hb] at hnm
    go_wp2
    go_ret
    exact ⟨rfl, rfl⟩
  · rw [hb] at hnm
    by_cases g1 : 1 ≤ n
    · rw [decide_eq_true g1] at h1 ⊢
      go_wp2
      go_ret
      exact ⟨rfl, rfl⟩
    · rw [decide_eq_false g1] at h1 ⊢
      go_wp2
      go_ret
      exact ⟨rfl, rfl⟩
def formB (n m : Nat) : Bool := n == m && (decide (1 ≤ n) && decide (n ≤ 4))
theorem formB_ok {n m : Nat} (h : formB n m = true) : n = m ∧ 1 ≤ n ∧ n ≤ 4 := by
  simpa [formB, and_assoc] using h
theorem s_formed (w : World) (L H : Option Addr) (n c m d : Nat) : Calls Tryz.prog 94 #[BoxW L H n c m d] w fun e w' => e = .returned (.bool (formB n m)) ∧ Below w.heap.size w w' :=
  (s_wellFormed w L H n c m d).mono fun e w' h => ⟨h.1, by rw [h.2]; exact (Below.refl _ _).alloc (Nat.le_refl _) _⟩
theorem r_formed (w : World) (L H : Option Addr) (n c m d : Nat) : Calls Tryz.prog 83 #[BoxW L H n c m d] w fun e w' => e = .returned (.bool (formB n m)) ∧ Below w.heap.size w w' :=
  (r_Formed w L H n c m d).mono fun e w' h => ⟨h.1, by rw [h.2]; exact (Below.refl _ _).alloc (Nat.le_refl _) _⟩
/-- Are the first k coordinates in the box? -/
def hasTo (l h v : Nat → Int) : Nat → Bool
  | 0 => true
  | k + 1 => hasTo l h v k && (decide (l k ≤ v k) && belB (v k) (h k))
theorem hasTo_le {l h v : Nat → Int} {k n : Nat} (hf : hasTo l h v k = false) (hn : k ≤ n) : hasTo l h v n = false := by
  induction n with
  | zero => obtain rfl : k = 0 := by omega
            exact hf
  | succ n ih =>
    by_cases e : k = n + 1
    · rw [← e]; exact hf
    · rw [hasTo, ih (by omega)]; rfl
def hasB (n m p : Nat) (l h v : Nat → Int) : Bool := formB n m && (p == n && hasTo l h v n)
set_option maxRecDepth 100000 in
set_option maxHeartbeats 4000000 in
theorem s_Has (w : World) (L H X : Option Addr) (n c m d p e : Nat) (l h v : Nat → Int) (hl : IntsAt w L n l) (hh : IntsAt w H m h) (hx : IntsAt w X p v) (hp : p ≤ 1000) (hn1 : n ≤ 1000) :
    Calls Tryz.prog 93 #[BoxW L H n c m d, .slice X p e] w fun e w' => e = .returned (.bool (hasB n m p l h v)) ∧ Below w.heap.size w w' := by
  have KB := Lib.hid (box_two w (.slice L n c) (.slice H m d) 66)
  have HB : Hid (Below w.heap.size w (w.alloc (.cells #[.slice L n c, .slice H m d] 66))) := (Below.refl _ _).alloc (Nat.le_refl _) _
  have HF := Lib.hid (s_formed (w.alloc (.cells #[.slice L n c, .slice H m d] 66)) L H n c m d)
  have HL := Lib.hid hl
  have HH := Lib.hid hh
  have HX := Lib.hid hx
  have HBe := Lib.hid s_below
  obtain ⟨ve, hve⟩ : ∃ ve, hasB n m p l h v = ve := ⟨_, rfl⟩
  rw [hve]
  have HV : Hid (ve = (formB n m && (p == n && hasTo l h v n))) := hve.symm
  clear hl hh hx hve
  go_enter Tryz.func93, Tryz.ntmps93
  obtain ⟨m0, m1⟩ := KB.out _ (Below.refl _ _)
  go_wp2_with fail
  clear m0 m1
  generalize w.alloc (.cells #[.slice L n c, .slice H m d] 66) = W0 at *
  refine HF.out.mono ?_
  rintro e w1 ⟨rfl, hb1⟩
  have HB1 := Lib.hid hb1
  clear hb1 HF
  obtain ⟨m0, m1⟩ := KB.out w1 HB1.out
  cases hf : formB n m
  · have HE : Hid (ve = false) := by show _ = _; rw [HV.out, hf]; rfl
    go_wp2
    go_ret
    exact ⟨by rw [HE.out]; rfl, st HB.out HB1.out⟩
  · obtain ⟨rfl, h1, h4⟩ := formB_ok hf
    have HV2 : Hid (ve = (p == n && hasTo l h v n)) := by show _ = _; rw [HV.out, hf, Bool.true_and]
    clear hf HV
    by_cases hpn : p = n
    · subst hpn
      have HV3 : Hid (ve = hasTo l h v p) := by show _ = _; rw [HV2.out, beq_self_eq_true, Bool.true_and]
      clear HV2
      go_wp2
      clear m0 m1
      go_loopw [5, 6, 20] (fun _ _ i wr => ∃ k : Nat, k ≤ p ∧ i = .int .i64 k ∧ Hid (hasTo l h v k = true) ∧ Hid (Below W0.heap.size W0 wr)) (fun _ _ i _ => p - (intOf i).toNat)
      case atStart => exact ⟨0, Nat.zero_le _, rfl, rfl, HB1.out⟩
      case round =>
        obtain ⟨k, hk, rfl, HK, HBw⟩ := hrel
        by_cases hlt : k < p
        · obtain ⟨m0, m1⟩ := KB.out wr HBw.out
          have HBB : Hid (Below w.heap.size w wr) := st HB.out HBw.out
          obtain ⟨b1, o1, rfl, _, hc1⟩ := (HL.out.below HBB.out) (by omega)
          have x0 := hc1 k hlt
          obtain ⟨b2, o2, rfl, _, hc2⟩ := (HH.out.below HBB.out) (by omega)
          have y0 := hc2 k hlt
          obtain ⟨b3, o3, rfl, _, hc3⟩ := (HX.out.below HBB.out) (by omega)
          have z0 := hc3 k hlt
          clear hc1 hc2 hc3
          have HS : Hid (hasTo l h v (k + 1) = (decide (l k ≤ v k) && belB (v k) (h k))) := by show _ = _; rw [hasTo, HK.out, Bool.true_and]
          have HFf : Hid ((decide (l k ≤ v k) && belB (v k) (h k)) = false → ve = false) := fun h9 => by rw [HV3.out]; exact hasTo_le (k := k + 1) (by rw [HS.out, h9]) (by omega)
          have HBk := Lib.hid (HBe.out (v k) (h k))
          generalize l k = x at *
          generalize h k = y at *
          generalize v k = z at *
          by_cases g1 : z < x
          · have HR := Lib.hid (HFf.out (by rw [decide_eq_false (by omega)]; rfl))
            go_wp2
            go_ret
            exact ⟨by rw [HR.out]; rfl, HBB.out⟩
          · rw [decide_eq_true (by omega : x ≤ z), Bool.true_and] at HS HFf
            cases hbz : belB z y
            · rw [hbz] at HBk
              have HR := Lib.hid (HFf.out hbz)
              clear hbz
              go_wp2_with fail
              refine (HBk.out _).mono ?_
              rintro e w2 ⟨rfl, rfl⟩
              go_wp2
              go_ret
              exact ⟨by rw [HR.out]; rfl, HBB.out⟩
            · rw [hbz] at HBk HS
              clear hbz
              go_wp2_with fail
              refine (HBk.out _).mono ?_
              rintro e w2 ⟨rfl, rfl⟩
              go_wp2
              go_roundw
              case rel => exact ⟨k + 1, by omega, by go_num, HS.out, HBw.out⟩
              case measure => simp [intOf]; omega
        · obtain rfl : k = p := by omega
          go_wp2
          go_ret
          exact ⟨by rw [HV3.out, HK.out]; rfl, st HB.out HBw.out⟩
    · have HE : Hid (ve = false) := by show _ = _; rw [HV2.out, beq_false_of_ne hpn, Bool.false_and]
      have h5 : ((p : Int) != (n : Int)) = true := by rw [bne_iff_ne]; omega
      clear hpn
      go_wp2
      go_ret
      exact ⟨by rw [HE.out]; rfl, st HB.out HB1.out⟩
end Go.Proofs.YtkckoanphciddaaGreatDoor
end
