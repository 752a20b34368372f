/- Extents, and the error of coordinates. -/
import Derived.Test.YtmhggphkhabjlaaGreatDoorZSpC
import Derived.Deep.RegionHeld3

/- Extents, and the error of coordinates. -/
section
namespace Go.Proofs.YtmhggphkhabjlaaGreatDoor
open Go Go.RowKit Go.Deep

theorem st {a b c : World} (h1 : Below a.heap.size a b) (h2 : Below b.heap.size b c) : Below a.heap.size a c := h1.trans (h2.mono h1.size)
theorem w64 {n : Int} (h1 : -9223372036854775808 ≤ n) (h2 : n ≤ 9223372036854775807) : IntKind.i64.wrap n = n := by rw [IntKind.wrap_i64]; omega
theorem i64_i {a b : Int} (h : IntKind.i64.wrap a = b) : Ending.returned (.int .i64 (IntKind.i64.wrap a)) = .returned (.int .i64 b) := by rw [h]
def lastZ (hi : Int) : Int := if hi ≤ 1073741824 then hi else 1073741824
def extZ (lo hi : Int) : Int := lastZ hi - lo + 1
abbrev DimV (s : ByteArray) (lo hi : Int) : Value := .agg #[.string s, .int .i64 lo, .int .i64 hi]
theorem dim_box (w : World) (s : ByteArray) (lo hi : Int) (W : World) (h : Below (w.alloc (.cells #[.string s, .int .i64 lo, .int .i64 hi] 28)).heap.size (w.alloc (.cells #[.string s, .int .i64 lo, .int .i64 hi] 28)) W) :
    W.cell? ⟨w.heap.size, 0, none⟩ = some (.string s) ∧ W.cell? ⟨w.heap.size, 1, none⟩ = some (.int .i64 lo) ∧ W.cell? ⟨w.heap.size, 2, none⟩ = some (.int .i64 hi) := by
  have hnw := heap_alloc_new w (Obj.cells #[.string s, .int .i64 lo, .int .i64 hi] 28)
  have hb := (h.block w.heap.size (by simp)).trans hnw
  refine ⟨?_, ?_, ?_⟩ <;> (rw [cell_of_row _ _ _ _ _ _ hb]; rfl)

set_option maxRecDepth 100000 in
set_option maxHeartbeats 1000000 in
theorem s_last (s : ByteArray) (lo hi : Int) (w : World) : Calls Tryz.prog 69 #[DimV s lo hi] w fun e w' => e = .returned (.int .i64 (lastZ hi)) ∧ Below w.heap.size w w' := by
  by_cases h : hi ≤ 1073741824
  · have e1 : lastZ hi = hi := if_pos h
    rw [e1]
    go_enter Tryz.func69, Tryz.ntmps69
    go_wp2
    go_ret
    exact ⟨rfl, (Below.refl _ _).alloc (Nat.le_refl _) _⟩
  · have e1 : lastZ hi = 1073741824 := if_neg h
    rw [e1]
    go_enter Tryz.func69, Tryz.ntmps69
    go_wp2
    go_ret
    exact ⟨rfl, (Below.refl _ _).alloc (Nat.le_refl _) _⟩
theorem last_bound {lo hi : Int} (h2 : lo ≤ hi) (h3 : lo ≤ 1073741824) : lastZ hi ≤ 1073741824 ∧ lo ≤ lastZ hi := by unfold lastZ; split <;> omega
set_option maxRecDepth 100000 in
set_option maxHeartbeats 1000000 in
theorem s_extent (s : ByteArray) (lo hi : Int) (w : World) (h1 : -1073741824 ≤ lo) (h2 : lo ≤ hi) (h3 : lo ≤ 1073741824) : Calls Tryz.prog 55 #[DimV s lo hi] w fun e w' => e = .returned (.int .i64 (extZ lo hi)) ∧ Below w.heap.size w w' := by
  have HL := Lib.hid (s_last s lo hi)
  have hb := last_bound h2 h3
  have e1 : extZ lo hi = lastZ hi - lo + 1 := rfl
  have KB := Lib.hid (dim_box w s lo hi)
  have HB : Hid (Below w.heap.size w (w.alloc (.cells #[.string s, .int .i64 lo, .int .i64 hi] 28))) := (Below.refl _ _).alloc (Nat.le_refl _) _
  rw [e1]
  clear e1
  generalize lastZ hi = L at *
  go_enter Tryz.func55, Tryz.ntmps55
  go_wp2_with fail
  generalize w.alloc (.cells #[.string s, .int .i64 lo, .int .i64 hi] 28) = W0 at *
  have B0d : Below W0.heap.size W0 W0.drew := Below.drew (Below.refl _ _)
  go_region_held3 (fun W => W.cell? ⟨w.heap.size, 0, none⟩ = some (.string s) ∧ W.cell? ⟨w.heap.size, 1, none⟩ = some (.int .i64 lo) ∧ W.cell? ⟨w.heap.size, 2, none⟩ = some (.int .i64 hi))
    (first | exact KB.out _ B1 | exact KB.out _ B0d | exact KB.out _ (Below.refl _ _))
    (first
      | (go_at_call 69; refine (HL.out _).mono ?_; rintro e w1 ⟨rfl, hb1⟩; have B1 : Below W0.heap.size W0 w1 := st B0d hb1))
  all_goals
    go_wp2
    go_ret
    exact ⟨i64_i (by rw [w64 (n := L - lo) (by omega) (by omega), w64 (by omega) (by omega)]), st HB.out B1⟩

/-- The integers of a slice. -/
def IntsAt (w : World) (A : Option Addr) (n : Nat) (xs : Nat → Int) : Prop :=
  0 < n → ∃ b o, A = some ⟨b, o, none⟩ ∧ b < w.heap.size ∧ ∀ k, k < n → w.cell? ⟨b, o + k, none⟩ = some (.int .i64 (xs k))
theorem IntsAt.below {w w' : World} {A : Option Addr} {n : Nat} {xs : Nat → Int} (h : IntsAt w A n xs) (hb : Below w.heap.size w w') : IntsAt w' A n xs := fun hn => by
  obtain ⟨b, o, h1, h2, h3⟩ := h hn
  exact ⟨b, o, h1, Nat.lt_of_lt_of_le h2 hb.size, fun k hk => (hb.cell (p := ⟨b, o + k, none⟩) h2).trans (h3 k hk)⟩
theorem DimsAt.below {w w' : World} {A : Option Addr} {n : Nat} {nm : Nat → ByteArray} {lo hi : Nat → Int} (h : DimsAt w A n nm lo hi) (hb : Below w.heap.size w w') : DimsAt w' A n nm lo hi := fun hn => by
  obtain ⟨b, o, h1, h2, h3⟩ := h hn
  refine ⟨b, o, h1, Nat.lt_of_lt_of_le h2 hb.size, fun k hk => ?_⟩
  obtain ⟨a1, a2, a3⟩ := h3 k hk
  exact ⟨(hb.cell (p := ⟨b, o + k * 3, none⟩) h2).trans a1, (hb.cell (p := ⟨b, o + k * 3 + 1, none⟩) h2).trans a2, (hb.cell (p := ⟨b, o + k * 3 + 2, none⟩) h2).trans a3⟩
/-- Are the first k coordinates of the dimensions? -/
def inTo (lo hi xs : Nat → Int) : Nat → Bool
  | 0 => true
  | k + 1 => inTo lo hi xs k && (decide (lo k ≤ xs k) && decide (xs k ≤ lastZ (hi k)))
theorem inTo_le {lo hi xs : Nat → Int} {k n : Nat} (h : inTo lo hi xs k = false) (hn : k ≤ n) : inTo lo hi xs n = false := by
  induction n with
  | zero => obtain rfl : k = 0 := by omega
            exact h
  | succ n ih =>
    by_cases e : k = n + 1
    · rw [← e]; exact h
    · rw [inTo, ih (by omega)]; rfl
def rangeE (b : Bool) : Int := bif b then 0 else 3
def placeEr (lo hi xs : Nat → Int) (n m : Nat) : Int := if n ≠ m then 13 else rangeE (inTo lo hi xs n)

set_option maxRecDepth 100000 in
set_option maxHeartbeats 4000000 in
theorem s_placeError (w : World) (A X : Option Addr) (n cap m cap' : Nat) (nm : Nat → ByteArray) (lo hi xs : Nat → Int) (hd : DimsAt w A n nm lo hi) (hx : IntsAt w X m xs) (hn : n ≤ 1000) (hm : m ≤ 1000) :
    Calls Tryz.prog 56 #[.slice A n cap, .slice X m cap'] w fun e w' => e = .returned (.int .i64 (placeEr lo hi xs n m)) ∧ Below w.heap.size w w' := by
  by_cases hnm : n = m
  · subst hnm
    have e1 : placeEr lo hi xs n n = rangeE (inTo lo hi xs n) := if_neg (by simp)
    rw [e1]
    clear e1
    have HD := Lib.hid hd
    have HX := Lib.hid hx
    have HL := Lib.hid s_last
    clear hd hx
    go_enter Tryz.func56, Tryz.ntmps56
    go_wp2
    go_loopw [5, 6, 14] (fun _ _ i wr => ∃ k : Nat, k ≤ n ∧ i = .int .i64 k ∧ Hid (inTo lo hi xs k = true ∧ Below w.heap.size w wr)) (fun _ _ i _ => n - (intOf i).toNat)
    case atStart => exact ⟨0, Nat.zero_le _, rfl, rfl, Below.refl _ _⟩
    case round =>
      obtain ⟨k, hk, rfl, HK⟩ := hrel
      by_cases hlt : k < n
      · obtain ⟨bd, o, rfl, _, hc⟩ := (HD.out.below HK.out.2) (by omega)
        obtain ⟨c0, c1, c2⟩ := hc k hlt
        clear hc
        obtain ⟨bx, ox, rfl, _, hcx⟩ := (HX.out.below HK.out.2) (by omega)
        have x0 := hcx k hlt
        clear hcx
        have HS : Hid (inTo lo hi xs (k + 1) = (decide (lo k ≤ xs k) && decide (xs k ≤ lastZ (hi k)))) := by show _ = _; rw [inTo, HK.out.1]; rfl
        have HF : Hid ((decide (lo k ≤ xs k) && decide (xs k ≤ lastZ (hi k))) = false → inTo lo hi xs n = false) := fun h => inTo_le (k := k + 1) (by rw [HS.out, h]) (by omega)
        have HB := Lib.hid HK.out.2
        generalize nm k = s at *
        generalize lo k = l0 at *
        generalize hi k = h0 at *
        generalize xs k = z at *
        by_cases g1 : z < l0
        · have HR : Hid (inTo lo hi xs n = false) := HF.out (by rw [decide_eq_false (by omega)]; rfl)
          go_wp2
          go_ret
          exact ⟨by rw [HR.out]; rfl, HB.out⟩
        · go_wp2_with fail
          refine (HL.out _ _ _ _).mono ?_
          rintro e w1 ⟨rfl, hb1⟩
          have HB1 : Hid (Below w.heap.size w w1) := st HB.out hb1
          by_cases g2 : z ≤ lastZ h0
          · have HR : Hid (inTo lo hi xs (k + 1) = true) := by show _ = _; rw [HS.out]; simp [g2]; omega
            have g3 : ¬ z > lastZ h0 := by omega
            generalize lastZ h0 = L at *
            go_wp2
            go_roundw
            case rel => exact ⟨k + 1, by omega, by go_num, HR.out, HB1.out⟩
            case measure => simp [intOf]; omega
          · have HR : Hid (inTo lo hi xs n = false) := HF.out (by simp [g2])
            have g3 : z > lastZ h0 := by omega
            generalize lastZ h0 = L at *
            go_wp2
            go_ret
            exact ⟨by rw [HR.out]; rfl, HB1.out⟩
      · obtain rfl : k = n := by omega
        go_wp2
        go_ret
        exact ⟨by rw [HK.out.1]; rfl, HK.out.2⟩
  · have e1 : placeEr lo hi xs n m = 13 := if_pos hnm
    have h1 : ((m : Int) != (n : Int)) = true := by rw [bne_iff_ne]; omega
    rw [e1]
    clear e1 hnm
    go_enter Tryz.func56, Tryz.ntmps56
    go_wp2
    go_ret
    exact ⟨rfl, Below.refl _ _⟩
end Go.Proofs.YtmhggphkhabjlaaGreatDoor
end

/- How many coordinates there are. -/
section
namespace Go.Proofs.YtmhggphkhabjlaaGreatDoor
open Go Go.RowKit Go.Deep

theorem made_names (w : World) : NamesAt (w.alloc (.map #[] 0)) w.heap.size [] := World.ownsMap_made w _ _ _
/-- The error of dimensions, with no names met before. -/
noncomputable def dimsZ (nm : Nat → ByteArray) (lo hi : Nat → Int) (n : Nat) : Int := dimsEr [] nm lo hi n
/-- What valid dimensions are like. -/
def DimsOk (lo hi : Nat → Int) (n : Nat) : Prop := ∀ k, k < n → -1073741824 ≤ lo k ∧ lo k ≤ 1073741824 ∧ lo k ≤ hi k ∧ hi k ≤ 1073741825
theorem dimsTo_ok {met : List ByteArray} {nm : Nat → ByteArray} {lo hi : Nat → Int} {n : Nat} (h : dimsTo met nm lo hi n = 0) : DimsOk lo hi n := by
  induction n with
  | zero => exact fun k hk => absurd hk (by omega)
  | succ n ih =>
    intro k hk
    by_cases h0 : dimsTo met nm lo hi n = 0
    · by_cases e : k = n
      · subst e
        rw [dimsTo, if_pos h0, dimE] at h
        split at h
        · split at h
          · exact absurd h (by decide)
          · omega
        · exact absurd h (by decide)
      · exact ih h0 k (by omega)
    · rw [dimsTo, if_neg h0] at h
      exact absurd h h0
theorem dimsZ_ok {nm : Nat → ByteArray} {lo hi : Nat → Int} {n : Nat} (h : dimsZ nm lo hi n = 0) : 1 ≤ n ∧ n ≤ 4 ∧ DimsOk lo hi n := by
  unfold dimsZ dimsEr at h
  split at h
  · exact absurd h (by decide)
  · exact ⟨by omega, by omega, dimsTo_ok h⟩

set_option maxRecDepth 100000 in
set_option maxHeartbeats 2000000 in
/-- dimsError of a new map. -/
theorem s_dims (w : World) (A : Option Addr) (n cap : Nat) (nm : Nat → ByteArray) (lo hi : Nat → Int) (hd : DimsAt w A n nm lo hi) :
    Calls Tryz.prog 51 #[.slice A n cap, .map (some w.heap.size)] (w.alloc (.map #[] 0)) fun e w' => e = .returned (.int .i64 (dimsZ nm lo hi n)) ∧ Below w.heap.size w w' ∧ w.heap.size < w'.heap.size ∧ (dimsZ nm lo hi n = 0 → NamesAt w' w.heap.size (metK [] nm n)) := by
  have hb : Below w.heap.size w (w.alloc (.map #[] 0)) := (Below.refl _ _).alloc (Nat.le_refl _) _
  refine (s_dimsError (w.alloc (.map #[] 0)) A n cap w.heap.size nm lo hi [] (hd.below hb) (fun hn a ha => ?_) (made_names w) (by decide)).mono ?_
  · obtain ⟨b, o, rfl, h2, _⟩ := hd hn
    injection ha with ha
    subst ha
    exact Nat.ne_of_lt h2
  · rintro e w' ⟨h1, hg, h3⟩
    have hz := hg.size
    rw [World.size_alloc] at hz
    exact ⟨h1, ⟨hg.os, hg.tape, hg.output, by omega, fun k hk => (hg.block k (by simp; omega) (fun e => by injection e with e; omega)).trans (hb.block k hk)⟩, by omega, h3⟩

/-- How many coordinates the first k dimensions have. -/
def prodZ (lo hi : Nat → Int) : Nat → Int
  | 0 => 1
  | k + 1 => prodZ lo hi k * extZ (lo k) (hi k)
/-- Is one of the products too large? -/
def overB (lo hi : Nat → Int) : Nat → Bool
  | 0 => false
  | k + 1 => overB lo hi k || decide (Int.tdiv 4611686018427387904 (extZ (lo k) (hi k)) < prodZ lo hi k)
theorem overB_le {lo hi : Nat → Int} {k n : Nat} (h : overB lo hi k = true) (hn : k ≤ n) : overB lo hi n = true := by
  induction n with
  | zero => obtain rfl : k = 0 := by omega
            exact h
  | succ n ih =>
    by_cases e : k = n + 1
    · rw [← e]; exact h
    · rw [overB, ih (by omega)]; rfl
/-- Is one of the dimensions open? -/
def openB (hi : Nat → Int) : Nat → Bool
  | 0 => false
  | k + 1 => openB hi k || hi k == 1073741825
theorem openB_le {hi : Nat → Int} {k n : Nat} (h : openB hi k = true) (hn : k ≤ n) : openB hi n = true := by
  induction n with
  | zero => obtain rfl : k = 0 := by omega
            exact h
  | succ n ih =>
    by_cases e : k = n + 1
    · rw [← e]; exact h
    · rw [openB, ih (by omega)]; rfl
theorem extZ_bound {lo hi : Int} (h1 : -1073741824 ≤ lo) (h2 : lo ≤ 1073741824) (h3 : lo ≤ hi) : 1 ≤ extZ lo hi ∧ extZ lo hi ≤ 2147483649 := by
  have := last_bound h3 h2
  unfold extZ
  omega
theorem mul_of_div {p e : Int} (he : 1 ≤ e) (hp : 0 ≤ p) (h : ¬ Int.tdiv 4611686018427387904 e < p) : 0 ≤ p * e ∧ p * e ≤ 4611686018427387904 := by
  rw [Int.tdiv_eq_ediv_of_nonneg (by decide)] at h
  constructor
  · exact Int.mul_nonneg hp (by omega)
  · have h1 : p ≤ 4611686018427387904 / e := by omega
    have h2 := Int.mul_le_mul_of_nonneg_right h1 (by omega : 0 ≤ e)
    have h3 := Int.ediv_mul_le 4611686018427387904 (by omega : e ≠ 0)
    omega
theorem prodZ_bound {lo hi : Nat → Int} {k : Nat} (hok : DimsOk lo hi k) (ho : overB lo hi k = false) : 1 ≤ prodZ lo hi k ∧ prodZ lo hi k ≤ 4611686018427387904 := by
  induction k with
  | zero => exact ⟨by unfold prodZ; decide, by unfold prodZ; decide⟩
  | succ k ih =>
    rw [overB, Bool.or_eq_false_iff, decide_eq_false_iff_not] at ho
    have h1 := ih (fun j hj => hok j (by omega)) ho.1
    obtain ⟨a1, a2, a3, _⟩ := hok k (by omega)
    have h2 := extZ_bound a1 a2 a3
    have h3 := mul_of_div h2.1 (by omega) ho.2
    rw [prodZ]
    refine ⟨?_, h3.2⟩
    have h4 := Int.mul_le_mul h1.1 h2.1 (by omega) (by omega)
    omega
/-- The volume, and its error. -/
noncomputable def volE (nm : Nat → ByteArray) (lo hi : Nat → Int) (n : Nat) : Int :=
  if dimsZ nm lo hi n ≠ 0 then dimsZ nm lo hi n else bif openB hi n then 3 else bif overB lo hi n then 14 else 0
noncomputable def volZ (nm : Nat → ByteArray) (lo hi : Nat → Int) (n : Nat) : Int := if volE nm lo hi n = 0 then prodZ lo hi n else 0

set_option maxRecDepth 100000 in
set_option maxHeartbeats 4000000 in
theorem s_Volume (w : World) (A : Option Addr) (n cap : Nat) (nm : Nat → ByteArray) (lo hi : Nat → Int) (hd : DimsAt w A n nm lo hi) :
    Calls Tryz.prog 16 #[.slice A n cap] w fun e w' => e = .returned (.tuple #[.int .i64 (volZ nm lo hi n), .int .i64 (volE nm lo hi n)]) ∧ Below w.heap.size w w' := by
  have hmm := @run_makeMap Tryz.prog
  have HD := Lib.hid hd
  have HC := Lib.hid (s_dims w A n cap nm lo hi hd)
  obtain ⟨vz, hvz⟩ : ∃ vz, volZ nm lo hi n = vz := ⟨_, rfl⟩
  obtain ⟨ve, hve⟩ : ∃ ve, volE nm lo hi n = ve := ⟨_, rfl⟩
  rw [hvz, hve]
  have HV : Hid (volZ nm lo hi n = vz ∧ volE nm lo hi n = ve) := ⟨hvz, hve⟩
  clear hd hvz hve
  by_cases h0 : dimsZ nm lo hi n = 0
  · have HOK := Lib.hid (dimsZ_ok h0)
    have HE : Hid (ve = bif openB hi n then 3 else bif overB lo hi n then 14 else 0) := by show _ = _; rw [← HV.out.2, volE, if_neg (by rw [h0]; simp)]
    rw [h0] at HC
    have h4 : n ≤ 4 := HOK.out.2.1
    have HX := Lib.hid s_extent
    clear h0
    go_enter Tryz.func16, Tryz.ntmps16
    go_wp2_with fail
    refine HC.out.mono ?_
    rintro e w1 ⟨rfl, hb1, hz1, _⟩
    have HB1 := Lib.hid hb1
    clear hb1 HC
    go_wp2
    go_loopw [6, 18] (fun _ i wr => ∃ k : Nat, k ≤ n ∧ i = .int .i64 k ∧ Hid (openB hi k = false ∧ Below w.heap.size w wr)) (fun _ i _ => n - (intOf i).toNat)
    case atStart => exact ⟨0, Nat.zero_le _, rfl, rfl, HB1.out⟩
    case round =>
      obtain ⟨k, hk, rfl, HK⟩ := hrel
      by_cases hlt : k < n
      · obtain ⟨bd, o, rfl, _, hc⟩ := (HD.out.below HK.out.2) (by omega)
        obtain ⟨c0, c1, c2⟩ := hc k hlt
        clear hc
        have HS : Hid (openB hi (k + 1) = (hi k == 1073741825)) := by show _ = _; rw [openB, HK.out.1]; rfl
        have HB := Lib.hid HK.out.2
        generalize nm k = s at *
        generalize lo k = l0 at *
        generalize hi k = h0 at *
        by_cases g1 : h0 = 1073741825
        · have HO : Hid (openB hi n = true) := openB_le (k := k + 1) (by rw [HS.out, g1]; rfl) (by omega)
          have HVE : Hid (ve = 3 ∧ vz = 0) := by
            have e1 : ve = 3 := by rw [HE.out, HO.out]; rfl
            refine ⟨e1, ?_⟩
            rw [← HV.out.1, volZ, HV.out.2, if_neg (by rw [e1]; decide)]
          subst g1
          go_wp2
          go_ret2
          exact ⟨by rw [HVE.out.1, HVE.out.2]; rfl, HB.out.alloc HB.out.size _⟩
        · have g2 : (h0 == 1073741825) = false := by rw [beq_eq_false_iff_ne]; exact g1
          have HR : Hid (openB hi (k + 1) = false) := by show _ = _; rw [HS.out, g2]
          go_wp2
          go_roundw
          case rel => exact ⟨k + 1, by omega, by go_num, HR.out, HB.out.alloc HB.out.size _⟩
          case measure => simp [intOf]; omega
      · obtain rfl : k = n := by omega
        have HB2 := Lib.hid HK.out.2
        have HO := Lib.hid HK.out.1
        go_wp2
        go_loopw [7, 9, 28] (fun v _ i wr => ∃ k' : Nat, k' ≤ k ∧ i = .int .i64 k' ∧ v = .int .i64 (prodZ lo hi k') ∧ Hid (overB lo hi k' = false ∧ Below w.heap.size w wr)) (fun _ _ i _ => k - (intOf i).toNat)
        case atStart => exact ⟨0, Nat.zero_le _, rfl, rfl, rfl, HB2.out⟩
        case round =>
          obtain ⟨k', hk', rfl, rfl, HK2⟩ := hrel
          by_cases hlt2 : k' < k
          · obtain ⟨bd, o, rfl, _, hc⟩ := (HD.out.below HK2.out.2) (by omega)
            obtain ⟨c0, c1, c2⟩ := hc k' hlt2
            clear hc
            have HBo : Hid (1 ≤ prodZ lo hi k' ∧ prodZ lo hi k' ≤ 4611686018427387904) := prodZ_bound (fun j hj => HOK.out.2.2 j (by omega)) HK2.out.1
            obtain ⟨q1, q2, q3, _⟩ := HOK.out.2.2 k' hlt2
            have HE1 : Hid (1 ≤ extZ (lo k') (hi k') ∧ extZ (lo k') (hi k') ≤ 2147483649) := extZ_bound q1 q2 q3
            have HXk := Lib.hid (fun s W => HX.out s (lo k') (hi k') W q1 q3 q2)
            have HP : Hid (prodZ lo hi (k' + 1) = prodZ lo hi k' * extZ (lo k') (hi k')) := rfl
            have HS : Hid (overB lo hi (k' + 1) = decide (Int.tdiv 4611686018427387904 (extZ (lo k') (hi k')) < prodZ lo hi k')) := by show _ = _; rw [overB, HK2.out.1]; rfl
            have HB := Lib.hid HK2.out.2
            clear q1 q2 q3
            generalize nm k' = s at *
            generalize lo k' = l0 at *
            generalize hi k' = h0 at *
            generalize extZ l0 h0 = E at *
            obtain ⟨P, hP⟩ : ∃ P, prodZ lo hi k' = P := ⟨_, rfl⟩
            rw [hP] at HBo HP HS ⊢
            clear hP
            have e0 : (E == 0) = false := by rw [beq_eq_false_iff_ne]; have := HE1.out; omega
            have e1 : ¬ E = 0 := by have := HE1.out; omega
            go_wp2_with fail
            refine (HXk.out _ _).mono ?_
            rintro e w2 ⟨rfl, hb2⟩
            have HB2' : Hid (Below w.heap.size w w2) := st (HB.out.alloc HB.out.size _) hb2
            have hnw := heap_alloc_new wr (Obj.cells #[Value.string s, Value.int IntKind.i64 l0, Value.int IntKind.i64 h0] 28)
            have hbx := (hb2.block wr.heap.size (by simp)).trans hnw
            have v0 : w2.cell? ⟨wr.heap.size, 0, none⟩ = some (.string s) := by rw [cell_of_row _ _ _ _ _ _ hbx]; rfl
            have v1 : w2.cell? ⟨wr.heap.size, 1, none⟩ = some (.int .i64 l0) := by rw [cell_of_row _ _ _ _ _ _ hbx]; rfl
            have v2 : w2.cell? ⟨wr.heap.size, 2, none⟩ = some (.int .i64 h0) := by rw [cell_of_row _ _ _ _ _ _ hbx]; rfl
            clear hb2 hnw hbx c0 c1 c2
            have hq0 : 0 ≤ Int.tdiv 4611686018427387904 E := by
              rw [Int.tdiv_eq_ediv_of_nonneg (by decide)]
              have := HE1.out
              exact Int.ediv_nonneg (by decide) (by omega)
            have hq1 : Int.tdiv 4611686018427387904 E ≤ 4611686018427387904 := by
              rw [Int.tdiv_eq_ediv_of_nonneg (by decide)]
              exact Int.ediv_le_self _ (by decide)
            obtain ⟨Q, hQe⟩ : ∃ Q, Int.tdiv 4611686018427387904 E = Q := ⟨_, rfl⟩
            rw [hQe] at HS hq0 hq1
            have hQ : wrap64 (Int.tdiv 4611686018427387904 E) = Q := by rw [hQe]; unfold wrap64; omega
            clear hQe
            by_cases g1 : Q < P
            · have HO2 : Hid (overB lo hi k = true) := overB_le (k := k' + 1) (by rw [HS.out, decide_eq_true g1]) (by omega)
              have HVE : Hid (ve = 14 ∧ vz = 0) := by
                have e1 : ve = 14 := by rw [HE.out, HO.out, HO2.out]; rfl
                refine ⟨e1, ?_⟩
                rw [← HV.out.1, volZ, HV.out.2, if_neg (by rw [e1]; decide)]
              go_wp2
              go_ret2
              exact ⟨by rw [HVE.out.1, HVE.out.2]; rfl, HB2'.out⟩
            · have g3 : ¬ P > Q := g1
              have HS2 : Hid (overB lo hi (k' + 1) = false) := by show _ = _; rw [HS.out, decide_eq_false g1]
              have HPE := prodZ_bound (lo := lo) (hi := hi) (k := k' + 1) (fun j hj => HOK.out.2.2 j (by omega)) HS2.out
              rw [HP.out] at HPE
              have HPE2 := Lib.hid HPE
              go_wp2_with fail
              refine (HXk.out _ _).mono ?_
              rintro e w3 ⟨rfl, hb3⟩
              have HB3 : Hid (Below w.heap.size w w3) := st HB2'.out hb3
              clear hb3 v0 v1 v2
              go_wp2
              go_roundw
              case rel => exact ⟨k' + 1, by omega, by go_num, by rw [HP.out], HS2.out, HB3.out⟩
              case measure => simp [intOf]; omega
          · obtain rfl : k' = k := by omega
            have HVE : Hid (ve = 0 ∧ vz = prodZ lo hi k') := by
              have e1 : ve = 0 := by rw [HE.out, HO.out, HK2.out.1]; rfl
              refine ⟨e1, ?_⟩
              rw [← HV.out.1, volZ, HV.out.2, if_pos e1]
            go_wp2
            go_ret2
            exact ⟨by rw [HVE.out.1, HVE.out.2]; rfl, HK2.out.2⟩
  · have HE : Hid (ve = dimsZ nm lo hi n ∧ vz = 0) := by
      have e1 : ve = dimsZ nm lo hi n := by rw [← HV.out.2, volE, if_pos h0]
      refine ⟨e1, ?_⟩
      rw [← HV.out.1, volZ, HV.out.2, if_neg (by rw [e1]; exact h0)]
    generalize dimsZ nm lo hi n = E at *
    have h1 : (E != 0) = true := by rw [bne_iff_ne]; exact h0
    clear h0
    go_enter Tryz.func16, Tryz.ntmps16
    go_wp2_with fail
    refine HC.out.mono ?_
    rintro e w1 ⟨rfl, hb1, hz1, _⟩
    go_wp2
    go_ret2
    exact ⟨by rw [HE.out.1, HE.out.2]; rfl, hb1⟩
end Go.Proofs.YtmhggphkhabjlaaGreatDoor
end
