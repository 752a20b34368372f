/- The chunks about coordinates: what the law of chunks asks of them. -/
import Derived.Test.YtoippldgoehpcaaGreatDoorZLCh
import Derived.Test.YtoippldgoehpcaaGreatDoorZChE
import Derived.Test.YtoippldgoehpcaaGreatDoorZSeq
import Derived.Test.YtoippldgoehpcaaGreatDoorZWk2
namespace Go.Proofs.YtoippldgoehpcaaGreatDoor
open Go Go.RowKit Go.Deep

/-- What holds of dimensions, a layout and coordinates without an error. -/
def ChOk (lo hi sd ov xs : Nat → Int) (n : Nat) : Prop := ∀ k, k < n → -1073741824 ≤ lo k ∧ lo k ≤ xs k ∧ xs k ≤ lastZ (hi k) ∧ lastZ (hi k) ≤ 1073741824 ∧ lo k ≤ hi k ∧ 1 ≤ sd k ∧ sd k ≤ 64 ∧ 0 ≤ ov k ∧ ov k ≤ 16 ∧ ov k ≤ sd k
theorem home_at {lo hi sd ov xs : Nat → Int} {n : Nat} (h : ChOk lo hi sd ov xs n) {k : Nat} (hk : k < n) :
    0 ≤ homeLo lo sd ov xs k ∧ homeLo lo sd ov xs k ≤ homeHi lo hi sd ov xs k ∧ homeHi lo hi sd ov xs k ≤ homeLo lo sd ov xs k + 2 ∧ homeHi lo hi sd ov xs k ≤ lcZ (lo k) (hi k) (sd k) := by
  obtain ⟨f1, f2, f3, f4, f5, f6, f7, f8, f9, f10⟩ := h k hk
  have := home_arith (y := xs k - lo k) (L := lastZ (hi k) - lo k) (s := sd k) (o := ov k) (by omega) (by omega) (by omega) (by omega) (by omega)
  unfold homeLo homeHi lcZ
  omega
theorem home_n {lo hi sd ov xs : Nat → Int} {n : Nat} (h : ChOk lo hi sd ov xs n) {k : Nat} (hk : k < n) :
    1 ≤ homeN lo hi sd ov xs k ∧ homeHi lo hi sd ov xs k = homeLo lo sd ov xs k + homeN lo hi sd ov xs k - 1 ∧ homeN lo hi sd ov xs k ≤ 3 := by
  have := home_at h hk
  unfold homeN
  omega
theorem home_few {lo hi sd ov xs : Nat → Int} {n : Nat} (h : ChOk lo hi sd ov xs n) (hn : n ≤ 4) : 1 ≤ volC (homeN lo hi sd ov xs) n 0 ∧ volC (homeN lo hi sd ov xs) n 0 ≤ 81 := by
  refine ⟨volC_pos' (fun k hk => (home_n h hk).1) (Nat.zero_le _), ?_⟩
  have := cntC_le (e := homeN lo hi sd ov xs) (b := 3) n 0 fun j _ h2 => (home_n h (by omega)).2.2
  unfold volC
  rw [Nat.sub_zero]
  refine Nat.le_trans this ?_
  rcases (by omega : n = 0 ∨ n = 1 ∨ n = 2 ∨ n = 3 ∨ n = 4) with rfl | rfl | rfl | rfl | rfl <;> decide
theorem sameZ_iff {n : Nat} {f g : Nat → Int} : sameZ n n f g = true ↔ ∀ k, k < n → f k = g k := by
  unfold sameZ
  rw [beq_self_eq_true, Bool.true_and, eqTo_iff]
/-- A chunk is among the homes exactly if the coordinates are in its wide box. -/
theorem among_wide {lo hi sd ov xs : Nat → Int} {n : Nat} (h : ChOk lo hi sd ov xs n) {v : Nat → Int} (hv : ∀ k, k < n → 0 ≤ v k ∧ v k ≤ lcZ (lo k) (hi k) (sd k)) :
    amTo (fun _ => n) (fun t => crdZ (homeLo lo sd ov xs) (homeN lo hi sd ov xs) n t) n v (volC (homeN lo hi sd ov xs) n 0) = insTo (wideLo lo sd ov v) (wideHi lo hi sd ov v) xs n := by
  have key : ∀ k, k < n → ((homeLo lo sd ov xs k ≤ v k ∧ v k ≤ homeHi lo hi sd ov xs k) ↔ (wideLo lo sd ov v k ≤ xs k ∧ xs k ≤ wideHi lo hi sd ov v k)) := fun k hk => by
    obtain ⟨f1, f2, f3, f4, f5, f6, f7, f8, f9, f10⟩ := h k hk
    obtain ⟨v1, v2⟩ := hv k hk
    have hw := home_wide (y := xs k - lo k) (L := lastZ (hi k) - lo k) (s := sd k) (o := ov k) (c := v k) (by omega) (by omega) (by omega) (by omega) v1 v2
    unfold homeLo homeHi wideLo wideHi coreHi lcZ
    rw [hw]
    generalize v k * sd k = q at *
    omega
  rw [Bool.eq_iff_iff, amTo_iff, insTo_iff]
  constructor
  · rintro ⟨t, ht, hs⟩ k hk
    have e1 := sameZ_iff.1 hs k hk
    have e2 := crd_in (lo := homeLo lo sd ov xs) (hi := homeHi lo hi sd ov xs) (e := homeN lo hi sd ov xs) (n := n) (fun k hk => ⟨(home_n h hk).1, (home_n h hk).2.1⟩) t hk
    rw [e1] at e2
    exact (key k hk).1 e2
  · intro hx
    obtain ⟨t, ht, h2⟩ := crd_onto (lo := homeLo lo sd ov xs) (hi := homeHi lo hi sd ov xs) (e := homeN lo hi sd ov xs) (n := n) (fun k hk => (home_n h hk).2.1) (v := v) (fun k hk => (key k hk).2 (hx k hk))
    exact ⟨t, ht, sameZ_iff.2 h2⟩
/-- Each home is a chunk, and the coordinates are in its wide box. -/
theorem home_each {lo hi sd ov xs : Nat → Int} {n : Nat} (h : ChOk lo hi sd ov xs n) {t : Nat} (ht : t < volC (homeN lo hi sd ov xs) n 0) :
    (∀ k, k < n → 0 ≤ crdZ (homeLo lo sd ov xs) (homeN lo hi sd ov xs) n t k ∧ crdZ (homeLo lo sd ov xs) (homeN lo hi sd ov xs) n t k ≤ lcZ (lo k) (hi k) (sd k)) ∧
    insTo (wideLo lo sd ov (crdZ (homeLo lo sd ov xs) (homeN lo hi sd ov xs) n t)) (wideHi lo hi sd ov (crdZ (homeLo lo sd ov xs) (homeN lo hi sd ov xs) n t)) xs n = true := by
  have hv : ∀ k, k < n → 0 ≤ crdZ (homeLo lo sd ov xs) (homeN lo hi sd ov xs) n t k ∧ crdZ (homeLo lo sd ov xs) (homeN lo hi sd ov xs) n t k ≤ lcZ (lo k) (hi k) (sd k) := fun k hk => by
    have e1 := home_at h hk
    have e2 := crd_in (lo := homeLo lo sd ov xs) (hi := homeHi lo hi sd ov xs) (e := homeN lo hi sd ov xs) (n := n) (fun k hk => ⟨(home_n h hk).1, (home_n h hk).2.1⟩) t hk
    omega
  refine ⟨hv, ?_⟩
  rw [← among_wide h hv]
  exact amTo_iff.2 ⟨t, ht, sameZ_iff.2 fun _ _ => rfl⟩
/-- The chunk of the coordinates. -/
theorem ch_at {lo hi sd ov xs : Nat → Int} {n : Nat} (h : ChOk lo hi sd ov xs n) {k : Nat} (hk : k < n) :
    (0 ≤ chZ lo sd xs k ∧ chZ lo sd xs k ≤ lcZ (lo k) (hi k) (sd k)) ∧ (coreLo lo sd (chZ lo sd xs) k ≤ xs k ∧ xs k ≤ coreHi lo hi sd (chZ lo sd xs) k) ∧ (wideLo lo sd ov (chZ lo sd xs) k ≤ xs k ∧ xs k ≤ wideHi lo hi sd ov (chZ lo sd xs) k) ∧
    (wideLo lo sd ov (chZ lo sd xs) k ≤ coreLo lo sd (chZ lo sd xs) k ∧ coreLo lo sd (chZ lo sd xs) k ≤ wideHi lo hi sd ov (chZ lo sd xs) k) ∧ (wideLo lo sd ov (chZ lo sd xs) k ≤ coreHi lo hi sd (chZ lo sd xs) k ∧ coreHi lo hi sd (chZ lo sd xs) k ≤ wideHi lo hi sd ov (chZ lo sd xs) k) := by
  obtain ⟨f1, f2, f3, f4, f5, f6, f7, f8, f9, f10⟩ := h k hk
  have hc := chunk_in (y := xs k - lo k) (L := lastZ (hi k) - lo k) (s := sd k) (by omega) (by omega) (by omega)
  have h0 : 0 ≤ (xs k - lo k) / sd k * sd k := Int.mul_nonneg hc.1 (by omega)
  unfold wideLo wideHi coreLo coreHi lcZ chZ
  generalize (xs k - lo k) / sd k * sd k = q at *
  generalize (lastZ (hi k) - lo k) / sd k = L9 at *
  generalize (xs k - lo k) / sd k = c9 at *
  omega
/-- The next chunk along one dimension. -/
theorem ch_next {lo hi sd ov xs : Nat → Int} {n : Nat} (h : ChOk lo hi sd ov xs n) {i : Nat} (hi9 : i < n) :
    (lcZ (lo i) (hi i) (sd i) < chZ lo sd xs i + 1 → coreHi lo hi sd (chZ lo sd xs) i = lastZ (hi i)) ∧
    (chZ lo sd xs i + 1 ≤ lcZ (lo i) (hi i) (sd i) → lo i + (chZ lo sd xs i + 1) * sd i = coreHi lo hi sd (chZ lo sd xs) i + 1) := by
  obtain ⟨f1, f2, f3, f4, f5, f6, f7, f8, f9, f10⟩ := h i hi9
  have hc := chunk_next (L := lastZ (hi i) - lo i) (s := sd i) (c := chZ lo sd xs i) (by omega)
  unfold coreHi lcZ
  rw [Int.add_mul, Int.one_mul]
  generalize chZ lo sd xs i * sd i = q at *
  constructor
  · intro h1
    have := hc.1.1 h1
    omega
  · intro h1
    have := hc.2.1 h1
    omega

/-- Homes, its lists at hand. -/
theorem h_Homes (w : World) (A S O X : Option Addr) (n cap s sc o oc m mc : Nat) (nm : Nat → ByteArray) (lo hi sd ov xs : Nat → Int) (ord tile form codec : Int) (hd : DimsAt w A n nm lo hi) (hs : IntsAt w S s sd) (ho : IntsAt w O o ov) (hx : IntsAt w X m xs) (hs1 : s ≤ 1000) (ho1 : o ≤ 1000) (hn1 : n ≤ 1000) (hm1 : m ≤ 1000)
    (he : atE nm lo hi n sd ov s o ord tile form codec xs m = 0) :
    Calls Tryz.prog 49 #[.slice A n cap, LayV S s sc O o oc ord tile form codec, .slice X m mc] w fun e w' => ∃ P c, e = .returned (.tuple #[.slice P (volC (homeN lo hi sd ov xs) n 0) c, .int .i64 0]) ∧ ListsAt w' P (volC (homeN lo hi sd ov xs) n 0) (fun _ => n) (fun t => crdZ (homeLo lo sd ov xs) (homeN lo hi sd ov xs) n t) ∧ Below w.heap.size w w' := by
  refine (s_Homes w A S O X n cap s sc o oc m mc nm lo hi sd ov xs ord tile form codec hd hs ho hx hs1 ho1 hn1 hm1 he).mono ?_
  rintro e w' ⟨v, B, zs, rfl, _, h2, h3, h4⟩
  generalize volC (homeN lo hi sd ov xs) n 0 = N at *
  rcases h2.2 with ⟨rfl, h0⟩ | ⟨g, c, cur, rfl, hg, hh, hcap, _, hs9, ht⟩
  · refine ⟨none, 0, ?_, fun hN => absurd hN (by omega), h4⟩
    have : N = 0 := by omega
    subst this
    rfl
  · rw [Nat.mul_one] at hs9 ht
    refine ⟨_, _, rfl, fun hN => ⟨g, 0, rfl, (Array.getElem?_eq_some_iff.1 hh).1, fun t ht9 => ?_⟩, h4⟩
    obtain ⟨P, c9, e1, e2⟩ := crd_ints (h3 t ht9)
    refine ⟨P, c9, ?_, e2, by show n ≤ 1000000; omega⟩
    have h5 : cur.toList[t]? = some (zs t) := by
      rw [← List.getElem?_take_of_lt ht9, ht]
      simp [ht9]
    rw [Array.getElem?_toList] at h5
    rw [Nat.zero_add, ← e1]
    simp [World.cell?, hh, h5]
end Go.Proofs.YtoippldgoehpcaaGreatDoor
