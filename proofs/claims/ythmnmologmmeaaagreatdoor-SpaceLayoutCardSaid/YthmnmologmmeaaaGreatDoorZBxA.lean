/- The homes among the chunks around: arithmetic. -/
import Derived.Test.YthmnmologmmeaaaGreatDoorZChF
import Derived.Test.YthmnmologmmeaaaGreatDoorZOpZ
import Derived.Test.YthmnmologmmeaaaGreatDoorZRfLi
import Derived.Test.YthmnmologmmeaaaGreatDoorZSeq
import Derived.Test.YthmnmologmmeaaaGreatDoorZCmpS
import Derived.Test.YthmnmologmmeaaaGreatDoorZSpH

/- The homes among the chunks around: arithmetic. -/
section
namespace Go.Proofs.YthmnmologmmeaaaGreatDoor
open Go Go.RowKit Go.Deep

def e3 (_ : Nat) : Nat := 3
theorem cnt3 : ∀ m k, cntC e3 k m = 3 ^ m
  | 0, _ => rfl
  | m + 1, k => by
    rw [cntC, cnt3 m (k + 1), Nat.pow_succ]
    show 3 * 3 ^ m = _
    omega
theorem vol3 (m k : Nat) : volC e3 m k = 3 ^ (m - k) := cnt3 _ _
/-- The list number t of those around c, from the place i on, of m integers. -/
def arZ (c : Nat → Int) (i m t j : Nat) : Int := crdZ (fun k => c (i + k) - 1) e3 m t j
theorem ar_head {c : Nat → Int} {i m a r : Nat} (ha : a < 3) (hr : r < 3 ^ m) : arZ c i (m + 1) (a * 3 ^ m + r) 0 = c i + a - 1 := by
  unfold arZ crdZ digC
  rw [vol3]
  have h1 : m + 1 - (0 + 1) = m := by omega
  rw [h1, Nat.mul_comm, Nat.mul_add_div (Nat.pow_pos (by omega)), Nat.div_eq_of_lt hr, Nat.add_zero]
  show c (i + 0) - 1 + ((a % 3 : Nat) : Int) = _
  rw [Nat.mod_eq_of_lt ha, Nat.add_zero]
  omega
theorem ar_tail {c : Nat → Int} {i m a r j : Nat} (hj : j < m) : arZ c i (m + 1) (a * 3 ^ m + r) (j + 1) = arZ c (i + 1) m r j := by
  unfold arZ crdZ digC
  rw [vol3, vol3]
  have h1 : m + 1 - (j + 1 + 1) = m - (j + 1) := by omega
  have h2 : a * 3 ^ m = 3 ^ (m - (j + 1)) * (a * 3 ^ j * 3) := by
    have h3 : 3 ^ m = 3 ^ (m - (j + 1)) * 3 ^ (j + 1) := by rw [← Nat.pow_add]; congr 1; omega
    rw [h3, Nat.pow_succ]
    generalize 3 ^ (m - (j + 1)) = x
    generalize 3 ^ j = y
    rw [Nat.mul_left_comm, Nat.mul_assoc]
  rw [h1, h2, Nat.mul_add_div (Nat.pow_pos (by omega))]
  have h4 : e3 (j + 1) = 3 := rfl
  have h5 : e3 j = 3 := rfl
  rw [h4, h5, Nat.add_comm (a * 3 ^ j * 3), Nat.add_mul_mod_self_right]
  have h6 : i + (j + 1) = i + 1 + j := by omega
  show c (i + (j + 1)) - 1 + _ = c (i + 1 + j) - 1 + _
  rw [h6]
/-- Numbers in the order of their digits. -/
theorem valC_less {e d d' : Nat → Nat} : ∀ m i k, i ≤ k → k < i + m → (∀ j, i ≤ j → j < i + m → d j < e j) → (∀ j, i ≤ j → j < k → d j = d' j) → d k < d' k → valC e d i m < valC e d' i m
  | 0, i, k, h1, h2, _, _, _ => by omega
  | m + 1, i, k, h1, h2, h3, h4, h5 => by
    rw [valC, valC]
    by_cases hk : i = k
    · subst hk
      have h6 := valC_lt m (i + 1) fun j _ h2 => h3 j (by omega) (by omega)
      generalize cntC e (i + 1) m = V at *
      generalize valC e d (i + 1) m = r at *
      generalize valC e d' (i + 1) m = r' at *
      have h7 : (d i + 1) * V ≤ d' i * V := Nat.mul_le_mul_right _ h5
      rw [Nat.add_mul, Nat.one_mul] at h7
      omega
    · have h6 := valC_less (d' := d') m (i + 1) k (by omega) (by omega) (fun j _ h2 => h3 j (by omega) (by omega)) (fun j h1 h2 => h4 j (by omega) h2) h5
      rw [h4 i (Nat.le_refl _) (by omega)]
      omega
/-- The digits, among the chunks around, of the home number t. -/
def hoD (lo hi sd ov xs : Nat → Int) (n t j : Nat) : Nat := (crdZ (homeLo lo sd ov xs) (homeN lo hi sd ov xs) n t j - (chZ lo sd xs j - 1)).toNat
/-- Its number. -/
def hoP (lo hi sd ov xs : Nat → Int) (n t : Nat) : Nat := valC e3 (hoD lo hi sd ov xs n t) 0 n
theorem near_arith {y L s o : Int} (_h1 : 0 ≤ y) (_h2 : y ≤ L) (h3 : 1 ≤ s) (h5 : o ≤ s) : y / s - 1 ≤ max (y - o) 0 / s ∧ min ((y + o) / s) (L / s) ≤ y / s + 1 := by
  have a1 : (y - s) / s ≤ max (y - o) 0 / s := Int.ediv_le_ediv (by omega) (by omega)
  have a2 : (y + o) / s ≤ (y + s) / s := Int.ediv_le_ediv (by omega) (by omega)
  rw [Int.sub_ediv_of_dvd _ (Int.dvd_refl s), Int.ediv_self (by omega)] at a1
  rw [Int.add_ediv_of_dvd_right (Int.dvd_refl s), Int.ediv_self (by omega)] at a2
  omega
theorem ho_near {lo hi sd ov xs : Nat → Int} {n : Nat} (h : ChOk lo hi sd ov xs n) (t : Nat) {k : Nat} (hk : k < n) : chZ lo sd xs k - 1 ≤ crdZ (homeLo lo sd ov xs) (homeN lo hi sd ov xs) n t k ∧ crdZ (homeLo lo sd ov xs) (homeN lo hi sd ov xs) n t k ≤ chZ lo sd xs k + 1 := by
  obtain ⟨f1, f2, f3, f4, f5, f6, f7, f8, f9, f10⟩ := h k hk
  have a1 := near_arith (y := xs k - lo k) (L := lastZ (hi k) - lo k) (s := sd k) (o := ov k) (by omega) (by omega) (by omega) (by omega)
  have a2 := crd_in (lo := homeLo lo sd ov xs) (hi := homeHi lo hi sd ov xs) (e := homeN lo hi sd ov xs) (n := n) (fun k hk => ⟨(home_n h hk).1, (home_n h hk).2.1⟩) t hk
  have a3 : homeLo lo sd ov xs k = max (xs k - lo k - ov k) 0 / sd k := rfl
  have a4 : homeHi lo hi sd ov xs k = min ((xs k - lo k + ov k) / sd k) ((lastZ (hi k) - lo k) / sd k) := rfl
  have a5 : chZ lo sd xs k = (xs k - lo k) / sd k := rfl
  omega
theorem ho_dig {lo hi sd ov xs : Nat → Int} {n : Nat} (h : ChOk lo hi sd ov xs n) (t : Nat) {k : Nat} (hk : k < n) : hoD lo hi sd ov xs n t k < 3 ∧ (hoD lo hi sd ov xs n t k : Int) = crdZ (homeLo lo sd ov xs) (homeN lo hi sd ov xs) n t k - (chZ lo sd xs k - 1) := by
  have := ho_near h t hk
  unfold hoD
  omega
theorem ho_lt {lo hi sd ov xs : Nat → Int} {n : Nat} (h : ChOk lo hi sd ov xs n) (t : Nat) : hoP lo hi sd ov xs n t < 3 ^ n := by
  rw [← cnt3 n 0]
  exact valC_lt n 0 fun j _ h2 => (ho_dig h t (by omega)).1
/-- The home number t is the list of its number. -/
theorem ho_at {lo hi sd ov xs : Nat → Int} {n : Nat} (h : ChOk lo hi sd ov xs n) (t : Nat) {k : Nat} (hk : k < n) : arZ (chZ lo sd xs) 0 n (hoP lo hi sd ov xs n t) k = crdZ (homeLo lo sd ov xs) (homeN lo hi sd ov xs) n t k := by
  have h1 := valC_dig (e := e3) (d := hoD lo hi sd ov xs n t) (n := n) n 0 (by omega) (fun j _ h2 => (ho_dig h t h2).1) 0 k (Nat.zero_le _) hk
  rw [Nat.zero_mul, Nat.add_zero] at h1
  have h2 := (ho_dig h t hk).2
  unfold arZ
  rw [crdZ, hoP, h1, h2, Nat.zero_add]
  omega
theorem ho_less {lo hi sd ov xs : Nat → Int} {n : Nat} (h : ChOk lo hi sd ov xs n) {t : Nat} (ht : t + 1 < volC (homeN lo hi sd ov xs) n 0) : hoP lo hi sd ov xs n t < hoP lo hi sd ov xs n (t + 1) := by
  have he : ∀ k, k < n → 1 ≤ homeN lo hi sd ov xs k := fun k hk => (home_n h hk).1
  obtain ⟨k, hk, h1, h2⟩ := carry_at he ht
  obtain ⟨h3, h4, _⟩ := carry_end he hk h1 h2
  refine valC_less n 0 k (Nat.zero_le _) (by omega) (fun j _ hj => (ho_dig h t (by omega)).1) (fun j _ hj => ?_) ?_
  · unfold hoD crdZ
    rw [h4 j hj]
  · have e1 := (ho_dig h t hk).2
    have e2 := (ho_dig h (t + 1) hk).2
    unfold crdZ at e1 e2
    rw [h3] at e2
    omega
/-- How far the homes are found when the lists up to i were looked at. -/
def HoSt (lo hi sd ov xs : Nat → Int) (n i j : Nat) : Prop := j ≤ volC (homeN lo hi sd ov xs) n 0 ∧ (∀ t, t < j → hoP lo hi sd ov xs n t < i) ∧ ∀ t, j ≤ t → t < volC (homeN lo hi sd ov xs) n 0 → i ≤ hoP lo hi sd ov xs n t
theorem ho_mono {lo hi sd ov xs : Nat → Int} {n : Nat} (h : ChOk lo hi sd ov xs n) {t : Nat} : ∀ d, t + d < volC (homeN lo hi sd ov xs) n 0 → hoP lo hi sd ov xs n t + d ≤ hoP lo hi sd ov xs n (t + d)
  | 0, _ => Nat.le_refl _
  | d + 1, hd => by
    have h1 := ho_mono h (t := t) d (by omega)
    have h2 := ho_less h (t := t + d) (by omega)
    rw [show t + (d + 1) = t + d + 1 by omega]
    omega
/-- Whether the list v is kept. -/
def keptB (lo hi sd ov xs v : Nat → Int) (n : Nat) : Bool := cinTo lo hi sd v n && insTo (wideLo lo sd ov v) (wideHi lo hi sd ov v) xs n
theorem HoSt.start (lo hi sd ov xs : Nat → Int) (n : Nat) : HoSt lo hi sd ov xs n 0 0 := ⟨Nat.zero_le _, fun t h => absurd h (by omega), fun _ _ _ => Nat.zero_le _⟩
theorem cinTo_iff {lo hi sd c : Nat → Int} : ∀ n, cinTo lo hi sd c n = true ↔ ∀ k, k < n → 0 ≤ c k ∧ c k ≤ lcZ (lo k) (hi k) (sd k)
  | 0 => by simp [cinTo]
  | n + 1 => by
    rw [cinTo, Bool.and_eq_true, cinTo_iff n, decide_eq_true_eq]
    constructor
    · rintro ⟨h1, h2⟩ k hk
      by_cases e : k = n
      · rw [e]; exact h2
      · exact h1 k (by omega)
    · intro h
      exact ⟨fun k hk => h k (by omega), h n (by omega)⟩
theorem cinTo_congr {lo hi sd c c' : Nat → Int} {n : Nat} (h : ∀ k, k < n → c k = c' k) : cinTo lo hi sd c n = cinTo lo hi sd c' n := by
  rw [Bool.eq_iff_iff, cinTo_iff, cinTo_iff]
  exact ⟨fun h1 k hk => h k hk ▸ h1 k hk, fun h1 k hk => (h k hk).symm ▸ h1 k hk⟩
theorem kept_congr {lo hi sd ov xs c c' : Nat → Int} {n : Nat} (h : ∀ k, k < n → c k = c' k) : keptB lo hi sd ov xs c n = keptB lo hi sd ov xs c' n := by
  unfold keptB
  rw [cinTo_congr h]
  congr 1
  rw [Bool.eq_iff_iff, insTo_iff, insTo_iff]
  have e1 : ∀ k, k < n → wideLo lo sd ov c k = wideLo lo sd ov c' k := fun k hk => by unfold wideLo; rw [h k hk]
  have e2 : ∀ k, k < n → wideHi lo hi sd ov c k = wideHi lo hi sd ov c' k := fun k hk => by unfold wideHi coreHi; rw [h k hk]
  exact ⟨fun h1 k hk => e1 k hk ▸ e2 k hk ▸ h1 k hk, fun h1 k hk => (e1 k hk).symm ▸ (e2 k hk).symm ▸ h1 k hk⟩
/-- A list around is kept exactly if it is the next home. -/
theorem HoSt.step {lo hi sd ov xs : Nat → Int} {n i j : Nat} (h : ChOk lo hi sd ov xs n) (hs : HoSt lo hi sd ov xs n i j) :
    (keptB lo hi sd ov xs (arZ (chZ lo sd xs) 0 n i) n = true → i < 3 ^ n → j < volC (homeN lo hi sd ov xs) n 0 ∧ (∀ k, k < n → arZ (chZ lo sd xs) 0 n i k = crdZ (homeLo lo sd ov xs) (homeN lo hi sd ov xs) n j k) ∧ HoSt lo hi sd ov xs n (i + 1) (j + 1)) ∧
    (keptB lo hi sd ov xs (arZ (chZ lo sd xs) 0 n i) n = false → HoSt lo hi sd ov xs n (i + 1) j) := by
  obtain ⟨h1, h2, h3⟩ := hs
  constructor
  · intro hk hi9
    unfold keptB at hk
    rw [Bool.and_eq_true, cinTo_iff] at hk
    obtain ⟨k1, k2⟩ := hk
    rw [← among_wide h k1, amTo_iff] at k2
    obtain ⟨t, ht, hs9⟩ := k2
    have e1 := sameZ_iff.1 hs9
    have e2 : hoP lo hi sd ov xs n t = i := by
      have e3' : ∀ k, k < n → hoD lo hi sd ov xs n t k = digC e3 n i k := fun k hk => by
        have a1 := (ho_dig h t hk).2
        have a2 : crdZ (homeLo lo sd ov xs) (homeN lo hi sd ov xs) n t k = chZ lo sd xs k - 1 + (digC e3 n i k : Int) := by
          rw [e1 k hk]
          show chZ lo sd xs (0 + k) - 1 + _ = _
          rw [Nat.zero_add]
        omega
      have a0 : ∀ m k q, k + m = n → (∀ j, k ≤ j → j < n → hoD lo hi sd ov xs n t j = digC e3 n q j) → q < 3 ^ m → valC e3 (hoD lo hi sd ov xs n t) k m = q := by
        intro m
        induction m with
        | zero => intro k q _ _ hq; rw [valC]; simp at hq; omega
        | succ m ih =>
          intro k q hk hd hq
          have b1 := hd k (Nat.le_refl _) (by omega)
          unfold digC at b1
          rw [vol3, show n - (k + 1) = m by omega] at b1
          rw [Nat.pow_succ] at hq
          have b2 : q / 3 ^ m < 3 := Nat.div_lt_of_lt_mul hq
          have b3 : q / 3 ^ m % e3 k = q / 3 ^ m := Nat.mod_eq_of_lt b2
          rw [b3] at b1
          have b4 := ih (k + 1) (q % 3 ^ m) (by omega) (fun j hj1 hj2 => by
            rw [hd j (by omega) hj2]
            have b5 := Nat.div_add_mod q (3 ^ m)
            have b6 : 3 ^ m = 3 ^ (n - (j + 1)) * (3 ^ (m - (n - (j + 1)) - 1) * 3) := by
              rw [← Nat.pow_succ, ← Nat.pow_add]
              congr 1
              omega
            unfold digC
            rw [vol3]
            show q / 3 ^ (n - (j + 1)) % 3 = q % 3 ^ m / 3 ^ (n - (j + 1)) % 3
            conv => lhs; rw [← b5]
            generalize q % 3 ^ m = r
            generalize q / 3 ^ m = x
            rw [b6]
            generalize 3 ^ (m - (n - (j + 1)) - 1) = y
            have b7 : 0 < 3 ^ (n - (j + 1)) := Nat.pow_pos (by omega)
            generalize 3 ^ (n - (j + 1)) = z at *
            rw [Nat.mul_assoc, Nat.mul_add_div b7, Nat.mul_assoc, Nat.add_comm, Nat.mul_comm y, Nat.mul_assoc, Nat.mul_comm 3, Nat.add_mul_mod_self_right]) (Nat.mod_lt _ (Nat.pow_pos (by omega)))
          rw [valC, b4, cnt3, b1, Nat.mul_comm]
          exact Nat.div_add_mod _ _
      exact a0 n 0 i (by omega) (fun j _ hj => e3' j hj) hi9
    have hj : t = j := by
      by_cases c1 : t < j
      · have := h2 t c1; omega
      · have c2 := ho_mono h (t := j) (t - j) (by omega)
        have c3 := h3 j (Nat.le_refl _) (by omega)
        rw [show j + (t - j) = t by omega] at c2
        omega
    subst hj
    refine ⟨ht, fun k hk => (e1 k hk).symm, by omega, fun t' ht' => ?_, fun t' ht' hv => ?_⟩
    · by_cases c1 : t' = t
      · subst c1; omega
      · have := h2 t' (by omega); omega
    · have c2 := ho_mono h (t := t) (t' - t) (by omega)
      rw [show t + (t' - t) = t' by omega] at c2
      omega
  · intro hk
    refine ⟨h1, fun t ht => by have := h2 t ht; omega, fun t ht hv => ?_⟩
    have c1 := h3 t ht hv
    by_cases c2 : hoP lo hi sd ov xs n t = i
    · have c3 := home_each h hv
      have c4 : keptB lo hi sd ov xs (crdZ (homeLo lo sd ov xs) (homeN lo hi sd ov xs) n t) n = true := by
        unfold keptB
        rw [Bool.and_eq_true, cinTo_iff]
        exact c3
      rw [← kept_congr (fun k hk => ho_at h t hk), c2, hk] at c4
      exact absurd c4 (by decide)
    · omega
theorem HoSt.stop {lo hi sd ov xs : Nat → Int} {n j : Nat} (h : ChOk lo hi sd ov xs n) (hs : HoSt lo hi sd ov xs n (3 ^ n) j) : j = volC (homeN lo hi sd ov xs) n 0 := by
  obtain ⟨h1, _, h3⟩ := hs
  by_cases c1 : j = volC (homeN lo hi sd ov xs) n 0
  · exact c1
  · have c2 := h3 j (Nat.le_refl _) (by omega)
    have c3 := ho_lt h j
    omega
end Go.Proofs.YthmnmologmmeaaaGreatDoor
end

/- The reference's lists around a list. -/
section
namespace Go.Proofs.YthmnmologmmeaaaGreatDoor
open Go Go.RowKit Go.Deep

theorem OwnL.base {w : World} {B B' n : Nat} {v : Value} {ln : Nat → Nat} {f : Nat → Nat → Int} (h : OwnL w B v n ln f) (hb : B' ≤ B) : OwnL w B' v n ln f := by
  obtain ⟨xs, ⟨hl, h1⟩, h2⟩ := h
  refine ⟨xs, ⟨hl, h1.imp id ?_⟩, h2⟩
  rintro ⟨g, cap, cur, e, hB, hr⟩
  exact ⟨g, cap, cur, e, Nat.le_trans hb hB, hr⟩
set_option maxRecDepth 100000 in
set_option maxHeartbeats 8000000 in
theorem r_around (m : Nat) : ∀ (w : World) (C : Option Addr) (n cc i : Nat) (f : Nat → Int), i + m = n → n ≤ 4 → IntsAt w C n f → (∀ k, k < n → 0 ≤ f k ∧ f k ≤ 4294967296) →
    Calls Tryz.prog 70 #[.slice C n cc, .int .i64 (i : Nat)] w fun e w' => ∃ v, e = .returned v ∧ OwnL w' w.heap.size v (3 ^ m) (fun _ => m) (arZ f i m) ∧ Below w.heap.size w w' := by
  induction m with
  | zero =>
    intro w C n cc i f hi hn4 hx hf
    obtain rfl : i = n := by omega
    go_enter Tryz.func70, Tryz.ntmps70
    go_wp2
    go_ret
    refine ⟨_, rfl, ⟨[.slice none 0 0], ⟨rfl, .inr ⟨w.heap.size, 1, #[.slice none 0 0], rfl, Nat.le_refl _, heap_alloc_new _ _, Nat.le_refl _, by unfold maxLen; omega, by simp, by simp⟩⟩, fun k hk => ?_⟩, (Below.refl _ _).alloc (Nat.le_refl _) _⟩
    have hk0 : k = 0 := by simpa using hk
    subst hk0
    exact ⟨none, 0, rfl, fun h => absurd h (Nat.lt_irrefl 0), fun _ => ⟨rfl, rfl⟩, Nat.zero_le _, fun a ha => by cases ha⟩
  | succ m ih =>
    intro w C n cc i f hi hn4 hx hf
    have hne : ¬ (i : Int) = (n : Int) := by omega
    have hne2 : ((i : Int) == (n : Int)) = false := by rw [beq_eq_false_iff_ne]; exact hne
    have hiw : IntKind.i64.wrap ((i : Int) + 1) = ((i + 1 : Nat) : Int) := by rw [w64 (by omega) (by omega)]; rfl
    have HX := Lib.hid hx
    have HF := Lib.hid hf
    have IH := Lib.hid (fun W hW => ih W C n cc (i + 1) f (by omega) hn4 (HX.out.below hW) hf)
    clear hx ih hf
    go_enter Tryz.func70, Tryz.ntmps70
    go_wp2_with fail
    refine (IH.out w (Below.refl _ _)).mono ?_
    rintro e w1 ⟨v, rfl, HR, hb1⟩
    obtain ⟨A, ac, rfl⟩ := HR.sl
    have hN81 : 3 ^ m ≤ 81 := by
      have : 3 ^ m ≤ 3 ^ 4 := Nat.pow_le_pow_right (by omega) (by omega)
      simpa using this
    have HB1 : Hid (Below w.heap.size w w1) := hb1
    have HRR := Lib.hid HR
    clear HR hb1
    go_wp2_with fail
    generalize hN : 3 ^ m = N at *
    go_loopw [6, 7, 8] (fun v kk _ wr => ∃ a : Nat, a ≤ 3 ∧ kk = .int .i64 ((a : Int) - 1) ∧ Hid (OwnL wr w1.heap.size v (a * N) (fun _ => m + 1) (arZ f i (m + 1))) ∧ Hid (Below w1.heap.size w1 wr)) (fun _ kk _ _ => (2 - intOf kk).toNat)
    case atStart => exact ⟨0, by omega, rfl, by rw [Nat.zero_mul]; exact OwnL.nil _ _ _ _, Below.refl _ _⟩
    case round =>
      obtain ⟨a, ha, rfl, HO, HBr⟩ := hrel
      by_cases ha3 : a < 3
      · have g1 : decide ((a : Int) - 1 ≤ 1) = true := decide_eq_true (by omega)
        obtain ⟨wo, rfl⟩ : ∃ wo, wo = wr := ⟨_, rfl⟩
        obtain ⟨kk, hkk⟩ : ∃ kk, (a : Int) - 1 = kk := ⟨_, rfl⟩
        rw [hkk] at g1 ⊢
        have HKK := Lib.hid hkk
        clear hkk
        go_wp2_with fail
        go_loopw [6, 8] (fun v rr wr => ∃ r : Nat, r ≤ N ∧ rr = .int .i64 (r : Nat) ∧ Hid (OwnL wr w1.heap.size v (a * N + r) (fun _ => m + 1) (arZ f i (m + 1))) ∧ Hid (Below w1.heap.size w1 wr)) (fun _ rr _ => N - (intOf rr).toNat)
        case atStart => exact ⟨0, Nat.zero_le _, rfl, HO.out, HBr.out⟩
        case round =>
          obtain ⟨r, hr, rfl, HOw, HBw⟩ := hrel
          by_cases hlt : r < N
          · obtain ⟨bc, oc, rfl, hbc, hcc⟩ := (HX.out.below (st HB1.out HBw.out)) (by omega)
            have hx1 := hcc i (by omega)
            clear hcc
            obtain ⟨ba, rfl, hba0, hba, hra⟩ := (HRR.out.below HBw.out).reads (by omega)
            obtain ⟨P, pc, hp1, hp2, hP0, _, hP⟩ := hra r hlt
            clear hra
            have hin : i < n := by omega
            have HFi := HF.out i hin
            obtain ⟨z, hz⟩ : ∃ z, f i = z := ⟨_, rfl⟩
            obtain ⟨g, hg⟩ : ∃ g, arZ f (i + 1) m r = g := ⟨_, rfl⟩
            rw [hz] at hx1 HFi
            rw [hg] at hp2
            have hzk : -9223372036854775808 ≤ z + kk ∧ z + kk ≤ 9223372036854775807 := by have := HKK.out; omega
            have HKq : Hid (∀ W, Below wr.heap.size wr W → W.cell? ⟨bc, oc + i, none⟩ = some (.int .i64 z) ∧ W.cell? ⟨ba, 0 + r, none⟩ = some (.slice P m pc) ∧ IntsAt W P m g) := fun W hW => ⟨(hW.cell (p := ⟨bc, oc + i, none⟩) hbc).trans hx1, by rw [Nat.zero_add]; exact (hW.cell (p := ⟨ba, r, none⟩) hba).trans hp1, hp2.below hW⟩
            have HNew : Hid (∀ j, j < m + 1 → catZ 1 (fun _ => z + kk) g j = arZ f i (m + 1) (a * N + r) j) := fun j hj => by
              unfold catZ
              rw [← hN]
              by_cases e : j = 0
              · subst e
                rw [if_pos (by omega), ar_head ha3 (by rw [hN]; exact hlt), hz]
                show z + kk = _
                have := HKK.out
                omega
              · obtain ⟨j', rfl⟩ : ∃ j', j = j' + 1 := ⟨j - 1, by omega⟩
                rw [if_neg (by omega), ar_tail (by omega), ← hg]
                rfl
            clear hx1 hp1 hp2 hz hg
            go_wp2_with fail
            rename_i K2 hK2
            refine wp_region_TK (n1 := 14) (T := TL [isW u6, isW (.slice (some ⟨bc, oc, none⟩) n cc), isW (.int .i64 (i : Nat)), isW (.pointer (some ⟨bc, oc + i, none⟩)), isW (.int .i64 z), isW (.int .i64 kk), isW (.int .i64 (z + kk)), OneI (z + kk) wr.heap.size, isW (.slice (some ⟨ba, 0, none⟩) N ac), isW (.int .i64 (r : Nat)), isW (.pointer (some ⟨ba, 0 + r, none⟩)), isW (.slice P m pc), LstK (catZ 1 (fun _ => z + kk) g) (m + 1) wr.heap.size, OneK (catZ 1 (fun _ => z + kk) g) (m + 1) wr.heap.size, (fun _ _ => True), (fun _ _ => False)]) (by kernel_rfl) (by decide) (by kernel_rfl) (by kernel_rfl) ?step ?tail
            case step =>
              intro listed aa W ix HL hi9 hilt
              have dl := HL.dl (l := [some 28, some 29, some 30, some 31, some 32, some 33, some 34, some 35, some 36, some 37, some 38, some 39, some 40, some 41, some 42, some 6]) rfl
              have ap := apart_of dl (by decide)
              obtain ⟨q1, q2, q3⟩ := HKq.out W HL.below
              have hBW := HL.below.size
              have mono : ∀ p' ∈ [isW u6, isW (.slice (some ⟨bc, oc, none⟩) n cc), isW (.int .i64 (i : Nat)), isW (.pointer (some ⟨bc, oc + i, none⟩)), isW (.int .i64 z), isW (.int .i64 kk), isW (.int .i64 (z + kk)), OneI (z + kk) wr.heap.size, isW (.slice (some ⟨ba, 0, none⟩) N ac), isW (.int .i64 (r : Nat)), isW (.pointer (some ⟨ba, 0 + r, none⟩)), isW (.slice P m pc), LstK (catZ 1 (fun _ => z + kk) g) (m + 1) wr.heap.size, OneK (catZ 1 (fun _ => z + kk) g) (m + 1) wr.heap.size, (fun _ _ => True), (fun _ _ => False)], Mono p' := by
                intro p' hp
                simp only [List.mem_cons, List.not_mem_nil, or_false] at hp
                rcases hp with rfl | rfl | rfl | rfl | rfl | rfl | rfl | rfl | rfl | rfl | rfl | rfl | rfl | rfl | rfl | rfl
                · exact isW_mono _
                · exact isW_mono _
                · exact isW_mono _
                · exact isW_mono _
                · exact isW_mono _
                · exact isW_mono _
                · exact isW_mono _
                · exact oneI_mono _ _
                · exact isW_mono _
                · exact isW_mono _
                · exact isW_mono _
                · exact isW_mono _
                · exact lstK_mono _ _ _
                · exact oneK_mono _ _ _
                · exact fun _ _ _ h _ => h
                · exact fun _ _ _ h _ => h
              rcases (by omega : ix = 0 ∨ ix = 1 ∨ ix = 2 ∨ ix = 3 ∨ ix = 4 ∨ ix = 5 ∨ ix = 6 ∨ ix = 7 ∨ ix = 8 ∨ ix = 9 ∨ ix = 10 ∨ ix = 11 ∨ ix = 12 ∨ ix = 13) with rfl | rfl | rfl | rfl | rfl | rfl | rfl | rfl | rfl | rfl | rfl | rfl | rfl | rfl
              · exact wpOp_of rfl (.inl rfl) (op_mv rfl rfl (HL.over mono ap rfl rfl (by simp) (Below.refl _ _) (HL.old 6 (old_end HL dl 6 15 (by decide) rfl (fun _ _ h => h)))))
              · exact wpOp_of rfl (.inl rfl) (op_mv rfl rfl (HL.over mono ap rfl rfl (by simp) (Below.refl _ _) (HL.old 0 (old_of' dl 0 (by decide)))))
              · exact wpOp_of rfl (.inl rfl) (op_mv rfl rfl (HL.over mono ap rfl rfl (by simp) (Below.refl _ _) (HL.old 1 (old_of' dl 1 (by decide)))))
              · exact wpOp_of rfl (.inl rfl) (op_ixI rfl rfl (HL.got' hi9 (j := 1) (t := 29) rfl (by kernel_rfl) rfl rfl) (HL.got' hi9 (j := 2) (t := 30) rfl (by kernel_rfl) rfl rfl) hin (HL.over mono ap rfl rfl (by simp) (Below.refl _ _) rfl))
              · exact wpOp_of rfl (.inl rfl) (op_ldI rfl rfl (HL.got' hi9 (j := 3) (t := 31) rfl (by kernel_rfl) rfl rfl) q1 (HL.over mono ap rfl rfl (by simp) (Below.refl _ _) rfl))
              · exact wpOp_of rfl (.inl rfl) (op_mv rfl rfl (HL.over mono ap rfl rfl (by simp) (Below.refl _ _) (HL.old 7 (old_of' dl 7 (by decide)))))
              · exact wpOp_of rfl (.inl rfl) (op_adC rfl rfl (HL.got' hi9 (j := 4) (t := 32) rfl (by kernel_rfl) rfl rfl) (HL.got' hi9 (j := 5) (t := 33) rfl (by kernel_rfl) rfl rfl) hzk (HL.over mono ap rfl rfl (by simp) (Below.refl _ _) rfl))
              · exact wpOp_of rfl (.inl rfl) (op_bsI rfl rfl (HL.got' hi9 (j := 6) (t := 34) rfl (by kernel_rfl) rfl rfl) (HL.over mono ap rfl rfl (by simp) (bel_nw W _) ⟨_, rfl, hBW, heap_alloc_new W _⟩))
              · exact wpOp_of rfl (.inl rfl) (op_mv rfl rfl (HL.over mono ap rfl rfl (by simp) (Below.refl _ _) (HL.old 5 (old_of' dl 5 (by decide)))))
              · exact wpOp_of rfl (.inl rfl) (op_mv rfl rfl (HL.over mono ap rfl rfl (by simp) (Below.refl _ _) (HL.old 8 (old_of' dl 8 (by decide)))))
              · exact wpOp_of rfl (.inl rfl) (op_ixL rfl rfl (HL.got' hi9 (j := 8) (t := 36) rfl (by kernel_rfl) rfl rfl) (HL.got' hi9 (j := 9) (t := 37) rfl (by kernel_rfl) rfl rfl) hlt (HL.over mono ap rfl rfl (by simp) (Below.refl _ _) rfl))
              · exact wpOp_of rfl (.inl rfl) (op_lsl (.inl rfl) rfl rfl (HL.got' hi9 (j := 10) (t := 38) rfl (by kernel_rfl) rfl rfl) q2 (HL.over mono ap rfl rfl (by simp) (Below.refl _ _) rfl))
              · exact wpOp_of rfl (.inl rfl) (by obtain ⟨b7, e7, f7, g7⟩ := HL.got' hi9 (j := 7) (t := 35) rfl (by kernel_rfl) rfl rfl; exact op_ap1 rfl rfl g7 f7 hBW e7 (HL.got' hi9 (j := 11) (t := 39) rfl (by kernel_rfl) rfl rfl) q3 (by omega) hP0 (fun v' w' h1 h2 => HL.over mono ap rfl rfl (by simp) h2 h1))
              · exact wpOp_of rfl (.inl rfl) (by obtain ⟨P9, c9, e9, u1, u2⟩ := HL.got' hi9 (j := 12) (t := 40) rfl (by kernel_rfl) rfl rfl; exact op_bsL rfl rfl e9 (HL.over mono ap rfl rfl (by simp) (bel_nw W _) ⟨_, P9, c9, rfl, hBW, heap_alloc_new W _, u1.below (bel_nw W _), fun a ha => ⟨(u2 a ha).1, Nat.lt_of_lt_of_le (u2 a ha).2 (bel_nw W _).size⟩⟩))
            case tail =>
              intro listed aa W HL hall
              have dl := HL.dl (l := [some 28, some 29, some 30, some 31, some 32, some 33, some 34, some 35, some 36, some 37, some 38, some 39, some 40, some 41, some 42, some 6]) rfl
              have s0 : slot aa 0 = Value.slice (some ⟨bc, oc, none⟩) n cc := HL.old 0 (old_of' dl 0 (by decide))
              have s1 : slot aa 1 = Value.int IntKind.i64 ↑i := HL.old 1 (old_of' dl 1 (by decide))
              have s2 : slot aa 2 = undef := HL.old 2 (old_of' dl 2 (by decide))
              have s3 : slot aa 3 = undef := HL.old 3 (old_of' dl 3 (by decide))
              have s4 : slot aa 4 = Value.slice none 0 0 := HL.old 4 (old_of' dl 4 (by decide))
              have s5 : slot aa 5 = Value.slice (some ⟨ba, 0, none⟩) N ac := HL.old 5 (old_of' dl 5 (by decide))
              have s7 : slot aa 7 = Value.int IntKind.i64 kk := HL.old 7 (old_of' dl 7 (by decide))
              have s8 : slot aa 8 = Value.int IntKind.i64 ↑r := HL.old 8 (old_of' dl 8 (by decide))
              have s9 : slot aa 9 = Value.int IntKind.i64 ↑i := HL.old 9 (old_of' dl 9 (by decide))
              have s10 : slot aa 10 = Value.slice (some ⟨bc, oc, none⟩) n cc := HL.old 10 (old_of' dl 10 (by decide))
              have s11 : slot aa 11 = Value.int IntKind.i64 ↑n := HL.old 11 (old_of' dl 11 (by decide))
              have s12 : slot aa 12 = Value.bool false := HL.old 12 (old_of' dl 12 (by decide))
              have s13 : slot aa 13 = undef := HL.old 13 (old_of' dl 13 (by decide))
              have s14 : slot aa 14 = Value.slice (some ⟨bc, oc, none⟩) n cc := HL.old 14 (old_of' dl 14 (by decide))
              have s15 : slot aa 15 = Value.int IntKind.i64 ↑i := HL.old 15 (old_of' dl 15 (by decide))
              have s16 : slot aa 16 = Value.int IntKind.i64 (↑i + 1) := HL.old 16 (old_of' dl 16 (by decide))
              have s17 : slot aa 17 = Value.slice (some ⟨ba, 0, none⟩) N ac := HL.old 17 (old_of' dl 17 (by decide))
              have s18 : slot aa 18 = Value.int IntKind.i64 kk := HL.old 18 (old_of' dl 18 (by decide))
              have s19 : slot aa 19 = Value.bool true := HL.old 19 (old_of' dl 19 (by decide))
              have s20 : slot aa 20 = u20 := HL.old 20 (old_of' dl 20 (by decide))
              have s21 : slot aa 21 = u21 := HL.old 21 (old_of' dl 21 (by decide))
              have s22 : slot aa 22 = Value.int IntKind.i64 ↑r := HL.old 22 (old_of' dl 22 (by decide))
              have s23 : slot aa 23 = Value.slice (some ⟨ba, 0, none⟩) N ac := HL.old 23 (old_of' dl 23 (by decide))
              have s24 : slot aa 24 = Value.int IntKind.i64 ↑N := HL.old 24 (old_of' dl 24 (by decide))
              have s25 : slot aa 25 = Value.bool true := HL.old 25 (old_of' dl 25 (by decide))
              have s26 : slot aa 26 = u26 := HL.old 26 (old_of' dl 26 (by decide))
              have s27 : slot aa 27 = u27 := HL.old 27 (old_of' dl 27 (by decide))
              have s43 : slot aa 43 = undef := HL.old 43 (old_of' dl 43 (by decide))
              have e0 := HL.got 0 _ 28 rfl rfl (hall 0 (by decide))
              obtain ⟨b, P9, c9, e1, f1, f2, f3, f4⟩ := HL.got 13 _ 41 rfl rfl (hall 13 (by decide))
              obtain ⟨fr, hf, rfl⟩ := actlitf 44 aa (HL.frame.trans (by simp)) (HL.defers.trans rfl)
              rw [show List.range 44 = [0, 1, 2, 3, 4, 5, 6, 7, 8, 9, 10, 11, 12, 13, 14, 15, 16, 17, 18, 19, 20, 21, 22, 23, 24, 25, 26, 27, 28, 29, 30, 31, 32, 33, 34, 35, 36, 37, 38, 39, 40, 41, 42, 43] from rfl]
              simp only [List.map_cons, List.map_nil]
              have q0 := (hf 0).symm.trans s0
              have q1 := (hf 1).symm.trans s1
              have q2 := (hf 2).symm.trans s2
              have q3 := (hf 3).symm.trans s3
              have q4 := (hf 4).symm.trans s4
              have q5 := (hf 5).symm.trans s5
              have q7 := (hf 7).symm.trans s7
              have q8 := (hf 8).symm.trans s8
              have q9 := (hf 9).symm.trans s9
              have q10 := (hf 10).symm.trans s10
              have q11 := (hf 11).symm.trans s11
              have q12 := (hf 12).symm.trans s12
              have q13 := (hf 13).symm.trans s13
              have q14 := (hf 14).symm.trans s14
              have q15 := (hf 15).symm.trans s15
              have q16 := (hf 16).symm.trans s16
              have q17 := (hf 17).symm.trans s17
              have q18 := (hf 18).symm.trans s18
              have q19 := (hf 19).symm.trans s19
              have q20 := (hf 20).symm.trans s20
              have q21 := (hf 21).symm.trans s21
              have q22 := (hf 22).symm.trans s22
              have q23 := (hf 23).symm.trans s23
              have q24 := (hf 24).symm.trans s24
              have q25 := (hf 25).symm.trans s25
              have q26 := (hf 26).symm.trans s26
              have q27 := (hf 27).symm.trans s27
              have q43 := (hf 43).symm.trans s43
              have q28 : fr 28 = u6 := (hf 28).symm.trans e0
              have q41 : fr 41 = .slice (some ⟨b, 0, none⟩) 1 1 := (hf 41).symm.trans e1
              rw [q0, q1, q2, q3, q4, q5, q7, q8, q9, q10, q11, q12, q13, q14, q15, q16, q17, q18, q19, q20, q21, q22, q23, q24, q25, q26, q27, q43, q28, q41]
              clear s0 s1 s2 s3 s4 s5 s7 s8 s9 s10 s11 s12 s13 s14 s15 s16 s17 s18 s19 s20 s21 s22 s23 s24 s25 s26 s27 s43 q0 q1 q2 q3 q4 q5 q7 q8 q9 q10 q11 q12 q13 q14 q15 q16 q17 q18 q19 q20 q21 q22 q23 q24 q25 q26 q27 q43 q28 q41
              have hb0 := HL.below
              have hO := HOw.out.below hb0
              have HBW : Hid (Below w1.heap.size w1 W) := st HBw.out hb0
              clear hf dl hall HL e0 e1
              have ho : ∀ a, P9 = some a → a.block < W.heap.size ∧ u6.ownBlock ≠ some a.block := fun a ha => ⟨(f4 a ha).2, fun h9 => by
                have h8 := (HOw.out.block h9).2
                have h7 := (f4 a ha).1
                omega⟩
              refine wpList_appL rfl (.tmp 28) (.tmp 41) rfl W w1.heap.size u6 (a * N + r) _ _ rfl hO b rfl P9 (m + 1) c9 _ f2 f3 (by omega) (by omega) ho (by have : a * N ≤ 2 * 81 := Nat.mul_le_mul (by omega) hN81; omega) HBW.out.size ?_
              intro v' w2 hown hgr hat
              have HB9 : Hid (Below w1.heap.size w1 w2) := HBW.out.grown hgr HBW.out.size (fun k hk => (hO.block hk).1)
              have HO9 : Hid (OwnL w2 w1.heap.size v' (a * N + (r + 1)) (fun _ => m + 1) (arZ f i (m + 1))) := hown.congr (fun k hk => by unfold updNN; split <;> rfl) (fun k hk j hj => by
                unfold updLL
                have hj' : j < m + 1 := by
                  have h9 : updNN (fun _ => m + 1) (a * N + r) (m + 1) k = m + 1 := by unfold updNN; split <;> rfl
                  omega
                split
                · rename_i e; rw [e, HNew.out j hj']
                · rfl)
              clear hO hgr hat hown f1 f2 f3 f4 hb0 ho
              go_wp2_with fail
              go_roundw
              case rel => exact ⟨r + 1, by omega, by go_num, HO9.out, HB9.out⟩
              case measure => simp [intOf]; omega
          · obtain rfl : r = N := by omega
            have hkw : IntKind.i64.wrap (kk + 1) = kk + 1 := w64 (by have := HKK.out; omega) (by have := HKK.out; omega)
            go_wp2_with fail
            go_roundw
            case rel =>
              refine ⟨a + 1, by omega, ?_, ?_, HBw.out⟩
              · have := HKK.out
                congr 1
                omega
              · rw [Nat.succ_mul]
                exact HOw.out
            case measure => have := HKK.out; simp [intOf]; omega
      · obtain rfl : a = 3 := by omega
        go_wp2
        go_ret
        refine ⟨_, rfl, ?_, st HB1.out HBr.out⟩
        rw [Nat.pow_succ, Nat.mul_comm, hN]
        exact HO.out.base HB1.out.size
end Go.Proofs.YthmnmologmmeaaaGreatDoor
end

/- The reference's Wide in error, and its Homes in error. -/
section
namespace Go.Proofs.YthmnmologmmeaaaGreatDoor
open Go Go.RowKit Go.Deep

theorem r_Wide_bad (w : World) (A S O X : Option Addr) (n cap s sc o oc m mc : Nat) (nm : Nat → ByteArray) (lo hi sd ov c : Nat → Int) (ord tile form codec : Int) (hd : DimsAt w A n nm lo hi) (hs : IntsAt w S s sd) (ho : IntsAt w O o ov) (hx : IntsAt w X m c) (hns : ∀ k, k < n → (nm k).size ≤ 9223372036854775807) (hs1 : s ≤ 1000) (ho1 : o ≤ 1000) (hn1 : n ≤ 1000) (hm1 : m ≤ 1000)
    (he : coreE nm lo hi n sd ov s o ord tile form codec c m ≠ 0) :
    Calls Tryz.prog 29 #[.slice A n cap, LayV S s sc O o oc ord tile form codec, .slice X m mc] w fun e w' => e = .returned (.tuple #[BoxV none none 0 0 0 0, .int .i64 (coreE nm lo hi n sd ov s o ord tile form codec c m)]) ∧ Below w.heap.size w w' :=
  r_Wide_err w A S O X n cap s sc o oc m mc ord tile form codec _ he fun W hW => r_Core_err W A S O X n cap s sc o oc m mc nm lo hi sd ov c ord tile form codec (hd.below hW) (hs.below hW) (ho.below hW) (hx.below hW) hns hs1 ho1 hn1 hm1 he
set_option maxRecDepth 100000 in
set_option maxHeartbeats 4000000 in
theorem r_Homes_bad (w : World) (A S O X : Option Addr) (n cap s sc o oc m mc : Nat) (nm : Nat → ByteArray) (lo hi sd ov xs : Nat → Int) (ord tile form codec : Int) (hd : DimsAt w A n nm lo hi) (hs : IntsAt w S s sd) (ho : IntsAt w O o ov) (hx : IntsAt w X m xs) (hns : ∀ k, k < n → (nm k).size ≤ 9223372036854775807) (hs1 : s ≤ 1000) (ho1 : o ≤ 1000) (hn1 : n ≤ 1000) (hm1 : m ≤ 1000)
    (he : atE nm lo hi n sd ov s o ord tile form codec xs m ≠ 0) :
    Calls Tryz.prog 23 #[.slice A n cap, LayV S s sc O o oc ord tile form codec, .slice X m mc] w fun e w' => e = .returned (.tuple #[.slice none 0 0, .int .i64 (atE nm lo hi n sd ov s o ord tile form codec xs m)]) ∧ Below w.heap.size w w' := by
  have HC := Lib.hid (fun W (hW : Below w.heap.size w W) => r_Chunk_bad W A S O X n cap s sc o oc m mc nm lo hi sd ov xs ord tile form codec (hd.below hW) (hs.below hW) (ho.below hW) (hx.below hW) hns hs1 ho1 hn1 hm1 he)
  have HB := Lib.hid (lay_row w S O s sc o oc ord tile form codec)
  generalize atE nm lo hi n sd ov s o ord tile form codec xs m = E at *
  clear hd hs ho hx hns
  have h1 : (E != 0) = true := by rw [bne_iff_ne]; exact he
  clear he
  go_enter Tryz.func23, Tryz.ntmps23
  go_wp2_with fail
  refine (HC.out _ HB.out).mono ?_
  rintro e w1 ⟨rfl, hb1⟩
  have HB1 := Lib.hid (st HB.out hb1)
  clear hb1 HC
  go_wp2
  go_ret2
  exact ⟨rfl, HB1.out⟩
end Go.Proofs.YthmnmologmmeaaaGreatDoor
end

/- Boxes: what is in them; the reference's too. -/
section
namespace Go.Proofs.YthmnmologmmeaaaGreatDoor
open Go Go.RowKit Go.Deep

def belB (x hi : Int) : Bool := decide (x ≤ hi) || decide (1073741825 ≤ hi)
theorem s_below (x hi : Int) (w : World) : Calls Tryz.prog 125 #[.int .i64 x, .int .i64 hi] w fun e w' => e = .returned (.bool (belB x hi)) ∧ w' = w := by
  have HE : Hid (belB x hi = (decide (x ≤ hi) || decide (1073741825 ≤ hi))) := rfl
  go_enter Tryz.func125, Tryz.ntmps125
  by_cases g1 : x ≤ hi
  · rw [decide_eq_true g1] at HE
    go_wp2
    go_ret
    exact ⟨by rw [HE.out]; rfl, rfl⟩
  · rw [decide_eq_false g1] at HE
    by_cases g2 : hi ≥ 1073741825
    · have g3 : (1073741825 : Int) ≤ hi := g2
      rw [decide_eq_true g3] at HE
      go_wp2
      go_ret
      exact ⟨by rw [HE.out]; rfl, rfl⟩
    · have g3 : ¬ (1073741825 : Int) ≤ hi := g2
      rw [decide_eq_false g3] at HE
      go_wp2
      go_ret
      exact ⟨by rw [HE.out]; rfl, rfl⟩
theorem r_below (x hi : Int) (w : World) : Calls Tryz.prog 114 #[.int .i64 x, .int .i64 hi] w fun e w' => e = .returned (.bool (belB x hi)) ∧ w' = w := by
  have HE : Hid (belB x hi = (decide (x ≤ hi) || decide (1073741825 ≤ hi))) := rfl
  go_enter Tryz.func114, Tryz.ntmps114
  by_cases g2 : hi ≥ 1073741825
  · have g3 : (1073741825 : Int) ≤ hi := g2
    rw [decide_eq_true g3, Bool.or_true] at HE
    go_wp2
    go_ret
    exact ⟨by rw [HE.out]; rfl, rfl⟩
  · have g3 : ¬ (1073741825 : Int) ≤ hi := g2
    rw [decide_eq_false g3, Bool.or_false] at HE
    by_cases g1 : x ≤ hi
    · rw [decide_eq_true g1] at HE
      go_wp2
      go_ret
      exact ⟨by rw [HE.out]; rfl, rfl⟩
    · rw [decide_eq_false g1] at HE
      go_wp2
      go_ret
      exact ⟨by rw [HE.out]; rfl, rfl⟩
theorem r_Formed (w : World) (L H : Option Addr) (n c m d : Nat) : Calls Tryz.prog 74 #[BoxW L H n c m d] w fun e w' => e = .returned (.bool (n == m && (decide (1 ≤ n) && decide (n ≤ 4)))) ∧ w' = w.alloc (.cells #[.slice L n c, .slice H m d] 66) := by
  obtain ⟨l0, l1⟩ := box_two w (.slice L n c) (.slice H m d) 66 _ (Below.refl _ _)
  have hnm : ((n : Int) == (m : Int)) = (n == m) := by rw [Bool.eq_iff_iff, beq_iff_eq, beq_iff_eq]; omega
  have h1 : decide ((1 : Int) ≤ (n : Int)) = decide (1 ≤ n) := by rw [decide_eq_decide]; omega
  have h4 : decide ((n : Int) ≤ 4) = decide (n ≤ 4) := by rw [decide_eq_decide]; omega
  go_enter Tryz.func74, Tryz.ntmps74
  cases hb : n == m
  · rw [hb] at hnm
    go_wp2
    go_ret
    exact ⟨rfl, rfl⟩
  · rw [hb] at hnm
    by_cases g1 : 1 ≤ n
    · rw [decide_eq_true g1] at h1 ⊢
      go_wp2
      go_ret
      exact ⟨rfl, rfl⟩
    · rw [decide_eq_false g1] at h1 ⊢
      go_wp2
      go_ret
      exact ⟨rfl, rfl⟩
def formB (n m : Nat) : Bool := n == m && (decide (1 ≤ n) && decide (n ≤ 4))
theorem formB_ok {n m : Nat} (h : formB n m = true) : n = m ∧ 1 ≤ n ∧ n ≤ 4 := by
  simpa [formB, and_assoc] using h
theorem s_formed (w : World) (L H : Option Addr) (n c m d : Nat) : Calls Tryz.prog 115 #[BoxW L H n c m d] w fun e w' => e = .returned (.bool (formB n m)) ∧ Below w.heap.size w w' :=
  (s_wellFormed w L H n c m d).mono fun e w' h => ⟨h.1, by rw [h.2]; exact (Below.refl _ _).alloc (Nat.le_refl _) _⟩
theorem r_formed (w : World) (L H : Option Addr) (n c m d : Nat) : Calls Tryz.prog 74 #[BoxW L H n c m d] w fun e w' => e = .returned (.bool (formB n m)) ∧ Below w.heap.size w w' :=
  (r_Formed w L H n c m d).mono fun e w' h => ⟨h.1, by rw [h.2]; exact (Below.refl _ _).alloc (Nat.le_refl _) _⟩
/-- Are the first k coordinates in the box? -/
def hasTo (l h v : Nat → Int) : Nat → Bool
  | 0 => true
  | k + 1 => hasTo l h v k && (decide (l k ≤ v k) && belB (v k) (h k))
theorem hasTo_le {l h v : Nat → Int} {k n : Nat} (hf : hasTo l h v k = false) (hn : k ≤ n) : hasTo l h v n = false := by
  induction n with
  | zero => obtain rfl : k = 0 := by omega
            exact hf
  | succ n ih =>
    by_cases e : k = n + 1
    · rw [← e]; exact hf
    · rw [hasTo, ih (by omega)]; rfl
def hasB (n m p : Nat) (l h v : Nat → Int) : Bool := formB n m && (p == n && hasTo l h v n)
set_option maxRecDepth 100000 in
set_option maxHeartbeats 4000000 in
theorem s_Has (w : World) (L H X : Option Addr) (n c m d p e : Nat) (l h v : Nat → Int) (hl : IntsAt w L n l) (hh : IntsAt w H m h) (hx : IntsAt w X p v) (hp : p ≤ 1000) (hn1 : n ≤ 1000) :
    Calls Tryz.prog 84 #[BoxW L H n c m d, .slice X p e] w fun e w' => e = .returned (.bool (hasB n m p l h v)) ∧ Below w.heap.size w w' := by
  have KB := Lib.hid (box_two w (.slice L n c) (.slice H m d) 66)
  have HB : Hid (Below w.heap.size w (w.alloc (.cells #[.slice L n c, .slice H m d] 66))) := (Below.refl _ _).alloc (Nat.le_refl _) _
  have HF := Lib.hid (s_formed (w.alloc (.cells #[.slice L n c, .slice H m d] 66)) L H n c m d)
  have HL := Lib.hid hl
  have HH := Lib.hid hh
  have HX := Lib.hid hx
  have HBe := Lib.hid s_below
  obtain ⟨ve, hve⟩ : ∃ ve, hasB n m p l h v = ve := ⟨_, rfl⟩
  rw [hve]
  have HV : Hid (ve = (formB n m && (p == n && hasTo l h v n))) := hve.symm
  clear hl hh hx hve
  go_enter Tryz.func84, Tryz.ntmps84
  obtain ⟨m0, m1⟩ := KB.out _ (Below.refl _ _)
  go_wp2_with fail
  clear m0 m1
  generalize w.alloc (.cells #[.slice L n c, .slice H m d] 66) = W0 at *
  refine HF.out.mono ?_
  rintro e w1 ⟨rfl, hb1⟩
  have HB1 := Lib.hid hb1
  clear hb1 HF
  obtain ⟨m0, m1⟩ := KB.out w1 HB1.out
  cases hf : formB n m
  · have HE : Hid (ve = false) := by show _ = _; rw [HV.out, hf]; rfl
    go_wp2
    go_ret
    exact ⟨by rw [HE.out]; rfl, st HB.out HB1.out⟩
  · obtain ⟨rfl, h1, h4⟩ := formB_ok hf
    have HV2 : Hid (ve = (p == n && hasTo l h v n)) := by show _ = _; rw [HV.out, hf, Bool.true_and]
    clear hf HV
    by_cases hpn : p = n
    · subst hpn
      have HV3 : Hid (ve = hasTo l h v p) := by show _ = _; rw [HV2.out, beq_self_eq_true, Bool.true_and]
      clear HV2
      go_wp2
      clear m0 m1
      go_loopw [5, 6, 20] (fun _ _ i wr => ∃ k : Nat, k ≤ p ∧ i = .int .i64 k ∧ Hid (hasTo l h v k = true) ∧ Hid (Below W0.heap.size W0 wr)) (fun _ _ i _ => p - (intOf i).toNat)
      case atStart => exact ⟨0, Nat.zero_le _, rfl, rfl, HB1.out⟩
      case round =>
        obtain ⟨k, hk, rfl, HK, HBw⟩ := hrel
        by_cases hlt : k < p
        · obtain ⟨m0, m1⟩ := KB.out wr HBw.out
          have HBB : Hid (Below w.heap.size w wr) := st HB.out HBw.out
          obtain ⟨b1, o1, rfl, _, hc1⟩ := (HL.out.below HBB.out) (by omega)
          have x0 := hc1 k hlt
          obtain ⟨b2, o2, rfl, _, hc2⟩ := (HH.out.below HBB.out) (by omega)
          have y0 := hc2 k hlt
          obtain ⟨b3, o3, rfl, _, hc3⟩ := (HX.out.below HBB.out) (by omega)
          have z0 := hc3 k hlt
          clear hc1 hc2 hc3
          have HS : Hid (hasTo l h v (k + 1) = (decide (l k ≤ v k) && belB (v k) (h k))) := by show _ = _; rw [hasTo, HK.out, Bool.true_and]
          have HFf : Hid ((decide (l k ≤ v k) && belB (v k) (h k)) = false → ve = false) := fun h9 => by rw [HV3.out]; exact hasTo_le (k := k + 1) (by rw [HS.out, h9]) (by omega)
          have HBk := Lib.hid (HBe.out (v k) (h k))
          generalize l k = x at *
          generalize h k = y at *
          generalize v k = z at *
          by_cases g1 : z < x
          · have HR := Lib.hid (HFf.out (by rw [decide_eq_false (by omega)]; rfl))
            go_wp2
            go_ret
            exact ⟨by rw [HR.out]; rfl, HBB.out⟩
          · rw [decide_eq_true (by omega : x ≤ z), Bool.true_and] at HS HFf
            cases hbz : belB z y
            · rw [hbz] at HBk
              have HR := Lib.hid (HFf.out hbz)
              clear hbz
              go_wp2_with fail
              refine (HBk.out _).mono ?_
              rintro e w2 ⟨rfl, rfl⟩
              go_wp2
              go_ret
              exact ⟨by rw [HR.out]; rfl, HBB.out⟩
            · rw [hbz] at HBk HS
              clear hbz
              go_wp2_with fail
              refine (HBk.out _).mono ?_
              rintro e w2 ⟨rfl, rfl⟩
              go_wp2
              go_roundw
              case rel => exact ⟨k + 1, by omega, by go_num, HS.out, HBw.out⟩
              case measure => simp [intOf]; omega
        · obtain rfl : k = p := by omega
          go_wp2
          go_ret
          exact ⟨by rw [HV3.out, HK.out]; rfl, st HB.out HBw.out⟩
    · have HE : Hid (ve = false) := by show _ = _; rw [HV2.out, beq_false_of_ne hpn, Bool.false_and]
      have h5 : ((p : Int) != (n : Int)) = true := by rw [bne_iff_ne]; omega
      clear hpn
      go_wp2
      go_ret
      exact ⟨by rw [HE.out]; rfl, st HB.out HB1.out⟩
end Go.Proofs.YthmnmologmmeaaaGreatDoor
end
