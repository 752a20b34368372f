/- The error of coordinates under a layout; the chunk of coordinates. -/
import Derived.Test.YtmhggphkhabjlaaGreatDoorZSpF
import Derived.StillTailTactics
namespace Go.Proofs.YtmhggphkhabjlaaGreatDoor
open Go Go.RowKit Go.Deep

theorem info_int : (Tryz.prog.info? 3).map (fun i => (i.zero, i.size, i.bytes)) = some (some (.int .i64 0), 1, 8) := by kernel_rfl
def updZ (f : Nat → Int) (k : Nat) (v : Int) (j : Nat) : Int := if j = k then v else f j
theorem set_int {w : World} {b t n : Nat} {f : Nat → Int} (h : w.rowIs b t n fun j => .int .i64 (f j)) (i : Nat) (v : Int) (u : Value) (hu : u = .int .i64 v) : (w.setCell ⟨b, i, none⟩ u).rowIs b t n fun j => .int .i64 (updZ f i v j) := by
  subst hu
  refine (h.set i _).congr fun j _ => ?_
  unfold updZ
  by_cases e : j = i
  · simp only [if_pos e]
  · simp only [if_neg e]
theorem ints_row {w : World} {b t n : Nat} {f : Nat → Int} (h : w.rowIs b t n fun j => .int .i64 (f j)) : IntsAt w (some ⟨b, 0, none⟩) n f := fun _ =>
  ⟨b, 0, rfl, h.lt, fun k hk => by rw [Nat.zero_add, h.cell hk]⟩
theorem lay_zero {nm : Nat → ByteArray} {lo hi sd ov : Nat → Int} {n s o : Nat} {ord tile form codec : Int} (h : layE nm lo hi n sd ov s o ord tile form codec = 0) : dimsZ nm lo hi n = 0 ∧ s = n ∧ o = n ∧ layTo sd ov n = true := by
  unfold layE at h
  by_cases h0 : dimsZ nm lo hi n = 0
  · rw [if_neg (by rw [h0]; simp)] at h
    by_cases h1 : s ≠ n ∨ o ≠ n
    · rw [if_pos h1] at h; exact absurd h (by decide)
    · rw [if_neg h1] at h
      by_cases h2 : layTo sd ov n = false
      · rw [if_pos h2] at h; exact absurd h (by decide)
      · exact ⟨h0, by omega, by omega, by simpa using h2⟩
  · rw [if_pos h0] at h; exact absurd h h0
noncomputable def atE (nm : Nat → ByteArray) (lo hi : Nat → Int) (n : Nat) (sd ov : Nat → Int) (s o : Nat) (ord tile form codec : Int) (xs : Nat → Int) (m : Nat) : Int :=
  if layE nm lo hi n sd ov s o ord tile form codec ≠ 0 then layE nm lo hi n sd ov s o ord tile form codec else placeEr lo hi xs n m

set_option maxRecDepth 100000 in
set_option maxHeartbeats 4000000 in
theorem s_atError (w : World) (A S O X : Option Addr) (n cap s sc o oc m mc : Nat) (nm : Nat → ByteArray) (lo hi sd ov xs : Nat → Int) (ord tile form codec : Int) (hd : DimsAt w A n nm lo hi) (hs : IntsAt w S s sd) (ho : IntsAt w O o ov) (hx : IntsAt w X m xs) (hs1 : s ≤ 1000) (ho1 : o ≤ 1000) (hn1 : n ≤ 1000) (hm1 : m ≤ 1000) :
    Calls Tryz.prog 64 #[.slice A n cap, LayV S s sc O o oc ord tile form codec, .slice X m mc] w fun e w' => e = .returned (.int .i64 (atE nm lo hi n sd ov s o ord tile form codec xs m)) ∧ Below w.heap.size w w' := by
  have KB := Lib.hid (lay_box w S O s sc o oc ord tile form codec)
  have HB : Hid (Below w.heap.size w (w.alloc (.cells #[.slice S s sc, .slice O o oc, .int .i64 ord, .int .i64 tile, .int .i64 form, .int .i64 codec] 48))) := (Below.refl _ _).alloc (Nat.le_refl _) _
  have HL := Lib.hid (s_Layout (w.alloc (.cells #[.slice S s sc, .slice O o oc, .int .i64 ord, .int .i64 tile, .int .i64 form, .int .i64 codec] 48)) A S O n cap s sc o oc nm lo hi sd ov ord tile form codec (hd.below HB.out) (hs.below HB.out) (ho.below HB.out) hs1 ho1 hn1)
  have HP : Hid (∀ W, Below w.heap.size w W → Calls Tryz.prog 56 #[.slice A n cap, .slice X m mc] W fun e w' => e = .returned (.int .i64 (placeEr lo hi xs n m)) ∧ Below W.heap.size W w') := fun W hW => s_placeError W A X n cap m mc nm lo hi xs (hd.below hW) (hx.below hW) hn1 hm1
  obtain ⟨ve, hve⟩ : ∃ ve, atE nm lo hi n sd ov s o ord tile form codec xs m = ve := ⟨_, rfl⟩
  rw [hve]
  have HV := Lib.hid hve
  clear hd hs ho hx hve
  go_enter Tryz.func64, Tryz.ntmps64
  go_wp2_with fail
  generalize w.alloc (.cells #[.slice S s sc, .slice O o oc, .int .i64 ord, .int .i64 tile, .int .i64 form, .int .i64 codec] 48) = W0 at *
  obtain ⟨l0, l1, l2, l3, l4, l5⟩ := KB.out W0 (Below.refl _ _)
  go_wp2_with fail
  refine HL.out.mono ?_
  rintro e w1 ⟨rfl, hb1⟩
  have HB1 : Hid (Below w.heap.size w w1) := st HB.out hb1
  clear hb1 HL l0 l1 l2 l3 l4 l5
  by_cases h0 : layE nm lo hi n sd ov s o ord tile form codec = 0
  · have HE : Hid (ve = placeEr lo hi xs n m) := by show _ = _; rw [← HV.out, atE, if_neg (by rw [h0]; simp)]
    rw [h0]
    clear h0
    go_wp2_with fail
    refine (HP.out _ HB1.out).mono ?_
    rintro e w2 ⟨rfl, hb2⟩
    go_wp2
    go_ret
    exact ⟨by rw [HE.out]; rfl, st HB1.out hb2⟩
  · have HE : Hid (ve = layE nm lo hi n sd ov s o ord tile form codec) := by show _ = _; rw [← HV.out, atE, if_pos h0]
    generalize layE nm lo hi n sd ov s o ord tile form codec = E at *
    have h1 : (E != 0) = true := by rw [bne_iff_ne]; exact h0
    clear h0
    go_wp2
    go_ret
    exact ⟨by rw [HE.out]; rfl, HB1.out⟩

/-- The number of the chunk along a dimension. -/
def chZ (lo sd xs : Nat → Int) (k : Nat) : Int := (xs k - lo k) / sd k
theorem inTo_ok {lo hi xs : Nat → Int} {n : Nat} (h : inTo lo hi xs n = true) : ∀ k, k < n → lo k ≤ xs k ∧ xs k ≤ lastZ (hi k) := by
  induction n with
  | zero => exact fun k hk => absurd hk (by omega)
  | succ n ih =>
    rw [inTo, Bool.and_eq_true, Bool.and_eq_true, decide_eq_true_eq, decide_eq_true_eq] at h
    intro k hk
    by_cases e : k = n
    · rw [e]; exact h.2
    · exact ih h.1 k (by omega)
theorem lastZ_le (hi : Int) : lastZ hi ≤ 1073741824 := by unfold lastZ; split <;> omega
theorem at_zero {nm : Nat → ByteArray} {lo hi sd ov : Nat → Int} {n s o : Nat} {ord tile form codec : Int} {xs : Nat → Int} {m : Nat} (h : atE nm lo hi n sd ov s o ord tile form codec xs m = 0) :
    layE nm lo hi n sd ov s o ord tile form codec = 0 ∧ n = m ∧ inTo lo hi xs n = true := by
  unfold atE at h
  by_cases h0 : layE nm lo hi n sd ov s o ord tile form codec = 0
  · rw [if_neg (by rw [h0]; simp), placeEr] at h
    by_cases h1 : n = m
    · rw [if_neg (by omega)] at h
      refine ⟨h0, h1, ?_⟩
      cases h2 : inTo lo hi xs n
      · rw [h2] at h; exact absurd h (by decide)
      · rfl
    · rw [if_pos h1] at h; exact absurd h (by decide)
  · rw [if_pos h0] at h; exact absurd h h0
/-- What holds of coordinates under a layout without an error. -/
theorem at_facts {nm : Nat → ByteArray} {lo hi sd ov : Nat → Int} {n s o : Nat} {ord tile form codec : Int} {xs : Nat → Int} {m : Nat} (h : atE nm lo hi n sd ov s o ord tile form codec xs m = 0) :
    s = n ∧ o = n ∧ m = n ∧ 1 ≤ n ∧ n ≤ 4 ∧ ∀ k, k < n → -1073741824 ≤ lo k ∧ lo k ≤ xs k ∧ xs k ≤ lastZ (hi k) ∧ lastZ (hi k) ≤ 1073741824 ∧ lo k ≤ hi k ∧ 1 ≤ sd k ∧ sd k ≤ 64 ∧ 0 ≤ ov k ∧ ov k ≤ 16 ∧ ov k ≤ sd k := by
  obtain ⟨h1, h2, h3⟩ := at_zero h
  obtain ⟨h4, h5, h6, h7⟩ := lay_zero h1
  obtain ⟨a1, a2, a3⟩ := dimsZ_ok h4
  refine ⟨h5, h6, h2.symm, a1, a2, fun k hk => ?_⟩
  have b1 := a3 k hk
  have b2 := inTo_ok h3 k hk
  have b3 := layTo_ok h7 k hk
  have b4 := lastZ_le (hi k)
  omega

set_option maxRecDepth 100000 in
set_option maxHeartbeats 4000000 in
theorem s_Chunk_bad (w : World) (A S O X : Option Addr) (n cap s sc o oc m mc : Nat) (nm : Nat → ByteArray) (lo hi sd ov xs : Nat → Int) (ord tile form codec : Int) (hd : DimsAt w A n nm lo hi) (hs : IntsAt w S s sd) (ho : IntsAt w O o ov) (hx : IntsAt w X m xs) (hs1 : s ≤ 1000) (ho1 : o ≤ 1000) (hn1 : n ≤ 1000) (hm1 : m ≤ 1000)
    (he : atE nm lo hi n sd ov s o ord tile form codec xs m ≠ 0) :
    Calls Tryz.prog 31 #[.slice A n cap, LayV S s sc O o oc ord tile form codec, .slice X m mc] w fun e w' => e = .returned (.tuple #[.slice none 0 0, .int .i64 (atE nm lo hi n sd ov s o ord tile form codec xs m)]) ∧ Below w.heap.size w w' := by
  have KB := Lib.hid (lay_box w S O s sc o oc ord tile form codec)
  have HB : Hid (Below w.heap.size w (w.alloc (.cells #[.slice S s sc, .slice O o oc, .int .i64 ord, .int .i64 tile, .int .i64 form, .int .i64 codec] 48))) := (Below.refl _ _).alloc (Nat.le_refl _) _
  have HA := Lib.hid (s_atError (w.alloc (.cells #[.slice S s sc, .slice O o oc, .int .i64 ord, .int .i64 tile, .int .i64 form, .int .i64 codec] 48)) A S O X n cap s sc o oc m mc nm lo hi sd ov xs ord tile form codec (hd.below HB.out) (hs.below HB.out) (ho.below HB.out) (hx.below HB.out) hs1 ho1 hn1 hm1)
  generalize atE nm lo hi n sd ov s o ord tile form codec xs m = E at *
  have h1 : (E != 0) = true := by rw [bne_iff_ne]; exact he
  clear hd hs ho hx he
  go_enter Tryz.func31, Tryz.ntmps31
  go_wp2_with fail
  generalize w.alloc (.cells #[.slice S s sc, .slice O o oc, .int .i64 ord, .int .i64 tile, .int .i64 form, .int .i64 codec] 48) = W0 at *
  obtain ⟨l0, l1, l2, l3, l4, l5⟩ := KB.out W0 (Below.refl _ _)
  go_wp2_with fail
  refine HA.out.mono ?_
  rintro e w1 ⟨rfl, hb1⟩
  have HB1 : Hid (Below w.heap.size w w1) := st HB.out hb1
  clear hb1 HA l0 l1 l2 l3 l4 l5
  go_wp2
  go_ret2
  exact ⟨rfl, HB1.out⟩

set_option maxRecDepth 100000 in
set_option maxHeartbeats 4000000 in
theorem s_Chunk (w : World) (A S O X : Option Addr) (n cap s sc o oc m mc : Nat) (nm : Nat → ByteArray) (lo hi sd ov xs : Nat → Int) (ord tile form codec : Int) (hd : DimsAt w A n nm lo hi) (hs : IntsAt w S s sd) (ho : IntsAt w O o ov) (hx : IntsAt w X m xs) (hs1 : s ≤ 1000) (ho1 : o ≤ 1000) (hn1 : n ≤ 1000) (hm1 : m ≤ 1000)
    (he : atE nm lo hi n sd ov s o ord tile form codec xs m = 0) :
    Calls Tryz.prog 31 #[.slice A n cap, LayV S s sc O o oc ord tile form codec, .slice X m mc] w fun e w' => ∃ b, e = .returned (.tuple #[.slice (some ⟨b, 0, none⟩) n n, .int .i64 0]) ∧ w.heap.size ≤ b ∧ w'.rowIs b 3 n (fun k => .int .i64 (chZ lo sd xs k)) ∧ Below w.heap.size w w' := by
  have KB := Lib.hid (lay_box w S O s sc o oc ord tile form codec)
  have HB : Hid (Below w.heap.size w (w.alloc (.cells #[.slice S s sc, .slice O o oc, .int .i64 ord, .int .i64 tile, .int .i64 form, .int .i64 codec] 48))) := (Below.refl _ _).alloc (Nat.le_refl _) _
  have HA := Lib.hid (s_atError (w.alloc (.cells #[.slice S s sc, .slice O o oc, .int .i64 ord, .int .i64 tile, .int .i64 form, .int .i64 codec] 48)) A S O X n cap s sc o oc m mc nm lo hi sd ov xs ord tile form codec (hd.below HB.out) (hs.below HB.out) (ho.below HB.out) (hx.below HB.out) hs1 ho1 hn1 hm1)
  have HF := Lib.hid (at_facts he)
  rw [he] at HA
  obtain ⟨rfl, rfl, rfl, _, hn4, _⟩ := HF.out
  have HD := Lib.hid hd
  have HS := Lib.hid hs
  have HX := Lib.hid hx
  clear hd hs ho hx he
  have hmk := fun W => run_make_row' (P := Tryz.prog) 32 3 (.int .i64 0) 8 Tryz.underlying32 info_int rfl .i64 .i64 m (by omega) (by omega) W
  go_enter Tryz.func31, Tryz.ntmps31
  go_wp2_with fail
  generalize w.alloc (.cells #[.slice S m sc, .slice O m oc, .int .i64 ord, .int .i64 tile, .int .i64 form, .int .i64 codec] 48) = W0 at *
  obtain ⟨l0, l1, l2, l3, l4, l5⟩ := KB.out W0 (Below.refl _ _)
  go_wp2_with fail
  refine HA.out.mono ?_
  rintro e w1 ⟨rfl, hb1⟩
  have HB1 : Hid (Below w.heap.size w w1) := st HB.out hb1
  have HB01 : Hid (Below W0.heap.size W0 w1) := hb1
  clear hb1 HA l0 l1 l2 l3 l4 l5
  obtain ⟨l0, l1, l2, l3, l4, l5⟩ := KB.out w1 HB01.out
  have hz1 := HB1.out.size
  have hkb := fun W h => KB.out W (HB01.out.trans (h : Below W0.heap.size w1 W))
  have hz01 := HB01.out.size
  have HK2 := Lib.hid hkb
  clear hkb
  have l0' : (w1.alloc (.cells (madeCells #[.int .i64 0] m) 3)).cell? ⟨w.heap.size, 0, none⟩ = some (.slice S m sc) := (HK2.out _ ((Below.refl _ _).alloc hz01 _)).1
  go_wp2
  clear hmk l0 l1 l2 l3 l4 l5 l0'
  go_loopw [10, 11, 25] (fun _ _ i wr => ∃ (k : Nat) (f : Nat → Int), k ≤ m ∧ i = .int .i64 k ∧ wr.rowIs w1.heap.size 3 m (fun j => .int .i64 (f j)) ∧ Hid (∀ j, j < k → f j = chZ lo sd xs j) ∧ Hid (Below w.heap.size w wr)) (fun _ _ i _ => m - (intOf i).toNat)
  case atStart => exact ⟨0, fun _ => 0, Nat.zero_le _, rfl, World.rowIs_made _ _ _ _, fun j hj => absurd hj (by omega), HB1.out.alloc hz1 _⟩
  case round =>
    obtain ⟨k, f, hk, rfl, hrow, HV, HBw⟩ := hrel
    have hsz : w1.heap.size < wr.heap.size := hrow.lt
    by_cases hlt : k < m
    · obtain ⟨bd, o, rfl, _, hc⟩ := (HD.out.below HBw.out) (by omega)
      obtain ⟨c0, c1, c2⟩ := hc k hlt
      clear hc
      obtain ⟨bs, os, rfl, _, hcs⟩ := (HS.out.below HBw.out) (by omega)
      have x0 := hcs k hlt
      obtain ⟨bx, ox, rfl, _, hcx⟩ := (HX.out.below HBw.out) (by omega)
      have y0 := hcx k hlt
      clear hcs hcx
      have hS := hrow.cell (i := k) (by omega)
      have hZ := hrow.frozen k
      have hf := HF.out.2.2.2.2.2 k hlt
      have HC : Hid (chZ lo sd xs k = (xs k - lo k) / sd k) := rfl
      generalize lastZ (hi k) = hl at *
      generalize nm k = s0 at *
      generalize lo k = l0 at *
      generalize hi k = h0 at *
      generalize xs k = z at *
      generalize sd k = q at *
      have hq0 : (q == 0) = false := by rw [beq_eq_false_iff_ne]; omega
      have hq1 : ¬ q = 0 := by omega
      go_wp2_with fail
      go_still_tail 15, (by kernel_rfl)
      change wpList _ _ _ _ _ wr.drew
      have hrow2 : wr.drew.rowIs w1.heap.size 3 m fun j => .int .i64 (f j) := hrow
      have hS2 := hrow2.cell (i := k) (by omega)
      have hZ2 := hrow2.frozen k
      have HBd : Hid (Below w.heap.size w wr.drew) := Below.drew HBw.out
      clear hrow hS hZ
      generalize hw2 : wr.drew = w2 at *
      go_wp2
      go_roundw
      case rel => exact ⟨k + 1, updZ f k ((z - l0) / q), by omega, by go_num, set_int hrow2 k _ _ rfl, fun j hj => by
        by_cases e : j = k
        · rw [updZ, if_pos e, e, HC.out]
        · rw [updZ, if_neg e]; exact HV.out j (by omega), HBd.out.setCell hz1 _⟩
      case measure => simp [intOf]; omega
    · obtain rfl : k = m := by omega
      have HR : Hid (wr.rowIs w1.heap.size 3 k (fun j => .int .i64 (chZ lo sd xs j))) := hrow.congr fun j hj => by rw [HV.out j hj]
      go_wp2
      go_ret2
      exact ⟨_, rfl, hz1, HR.out, HBw.out⟩
end Go.Proofs.YtmhggphkhabjlaaGreatDoor
