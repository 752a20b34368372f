/- What an operation makes of values that fit types: the arithmetic of types and kinds, and how a run's result becomes that of Do. -/
import Derived.Test.YthppcklegdnjdaaGreatDoorZRunG
import Derived.Test.YthppcklegdnjdaaGreatDoorZFitsG
import Derived.Test.YthppcklegdnjdaaGreatDoorZTyp4
import Derived.Test.YthppcklegdnjdaaGreatDoorZDoG
import Derived.Test.YthppcklegdnjdaaGreatDoorZClo

/- What an operation makes of values that fit types: the arithmetic of types and kinds, and how a run's result becomes that of Do. -/
section
namespace Go.Proofs.YthppcklegdnjdaaGreatDoor
open Go Go.RowKit Go.Deep Go.Shelf

def kindOf (t : Int) : Int := if t = 1 then 1 else if t = 4 then 3 else 2
theorem tyFour {t : Int} (h : isTy t = true) : t = 1 ∨ t = 2 ∨ t = 3 ∨ t = 4 := by
  simp [isTy] at h
  omega
theorem fit_kind {k d t : Int} (ht : isTy t = true) (h : fitB k d t = true) : k = 0 ∨ k = kindOf t := by
  rcases tyFour ht with rfl | rfl | rfl | rfl <;> simp [fitB, kindOf] at h ⊢ <;> omega
theorem fit_int {k d : Int} (h : fitB k d 2 = true) : k = 0 ∨ (k = 2 ∧ d = 1) := by
  simp [fitB] at h
  omega
theorem fit_num {k d t : Int} (ht : isNum t = true) (h : fitB k d t = true) : k = 0 ∨ k = 2 := by
  have : t = 2 ∨ t = 3 := by simpa [isNum] using ht
  rcases this with rfl | rfl <;> simp [fitB] at h <;> omega
theorem fit_bool {k d : Int} (h : fitB k d 1 = true) : k = 0 ∨ k = 1 := by
  simp [fitB] at h
  omega
theorem fit_zero (d t : Int) : fitB 0 d t = true := if_pos rfl
theorem good_num {k n d : Int} {s : ByteArray} (h : Good k n d s) (hk : k = 2) : s = noS ∧ Low n d := by
  cases h with
  | num n d h => exact ⟨rfl, h⟩
  | missing => omega
  | truth => omega
  | text => omega
theorem good_bool {k n d : Int} {s : ByteArray} (h : Good k n d s) (hk : k = 1) : s = noS ∧ d = 0 ∧ (n = 0 ∨ n = 1) := by
  cases h with
  | truth t => cases t <;> simp [bit]
  | missing => omega
  | num => omega
  | text => omega
theorem good_miss {k n d : Int} {s : ByteArray} (h : Good k n d s) (hk : k = 0) : s = noS ∧ d = 0 ∧ 1 ≤ n ∧ n ≤ 255 := by
  cases h with
  | missing n h1 h2 => exact ⟨rfl, rfl, h1, h2⟩
  | truth t => omega
  | num => omega
  | text => omega

/-! The types. -/
theorem L_num1 {ts : Nat → Int} {sh : Int} (ha : allTy 1 ts) (h : foldT (n3 3 0 0) ts 1 = some sh) : isNum (ts 0) = true ∧ sh = ts 0 := by
  rcases tyFour (ha 0 (by omega)) with e | e | e | e <;> simp [foldT, stepT, n3, isNum, cmT, e] at h ⊢ <;> omega
theorem L_bool1 {ts : Nat → Int} {sh : Int} (ha : allTy 1 ts) (h : foldT (n3 2 0 0) ts 1 = some sh) : ts 0 = 1 := by
  rcases tyFour (ha 0 (by omega)) with e | e | e | e <;> simp [foldT, stepT, n3, e] at h ⊢
theorem L_num2 {ts : Nat → Int} {sh : Int} (ha : allTy 2 ts) (h : foldT (n3 3 3 0) ts 2 = some sh) : isNum (ts 0) = true ∧ isNum (ts 1) = true ∧ (sh = 3 ∨ (sh = 2 ∧ ts 0 = 2 ∧ ts 1 = 2)) := by
  rcases tyFour (ha 0 (by omega)) with e | e | e | e <;> rcases tyFour (ha 1 (by omega)) with f | f | f | f <;> simp [foldT, stepT, n3, isNum, cmT, e, f] at h ⊢ <;> omega
theorem L_bool2 {ts : Nat → Int} {sh : Int} (ha : allTy 2 ts) (h : foldT (n3 2 2 0) ts 2 = some sh) : ts 0 = 1 ∧ ts 1 = 1 := by
  rcases tyFour (ha 0 (by omega)) with e | e | e | e <;> rcases tyFour (ha 1 (by omega)) with f | f | f | f <;> simp [foldT, stepT, n3, e, f] at h ⊢
/-- A value of one type fits another one. -/
def Into (t u : Int) : Prop := ∀ k d, fitB k d t = true → fitB k d u = true
theorem into_self (t : Int) : Into t t := fun _ _ h => h
theorem into_rat {t : Int} (h : t = 2 ∨ t = 3) : Into t 3 := by
  intro k d hf
  rcases h with rfl | rfl
  · rcases fit_int hf with rfl | ⟨rfl, _⟩ <;> rfl
  · exact hf
theorem L_alike2 {ts : Nat → Int} {sh : Int} (ha : allTy 2 ts) (h : foldT (n3 4 4 0) ts 2 = some sh) : kindOf (ts 0) = kindOf (ts 1) ∧ Into (ts 0) sh ∧ Into (ts 1) sh := by
  rcases tyFour (ha 0 (by omega)) with e | e | e | e <;> rcases tyFour (ha 1 (by omega)) with f | f | f | f <;> simp [foldT, stepT, n3, isNum, cmT, e, f] at h <;> rw [e, f] <;> subst h <;>
    first | exact ⟨rfl, into_self _, into_self _⟩ | exact ⟨rfl, into_rat (by omega), into_rat (by omega)⟩
theorem L_if {ts : Nat → Int} {sh : Int} (ha : allTy 3 ts) (h : foldT (n3 2 4 4) ts 3 = some sh) : ts 0 = 1 ∧ kindOf (ts 1) = kindOf (ts 2) ∧ Into (ts 1) sh ∧ Into (ts 2) sh := by
  rcases tyFour (ha 0 (by omega)) with g | g | g | g <;> rcases tyFour (ha 1 (by omega)) with e | e | e | e <;> rcases tyFour (ha 2 (by omega)) with f | f | f | f <;> simp [foldT, stepT, n3, isNum, cmT, e, f, g] at h <;> rw [e, f] <;> subst h <;>
    first | exact ⟨g, rfl, into_self _, into_self _⟩ | exact ⟨g, rfl, into_rat (by omega), into_rat (by omega)⟩

/-! The kinds. -/
theorem kindOf_pos (t : Int) : kindOf t = 1 ∨ kindOf t = 2 ∨ kindOf t = 3 := by
  unfold kindOf
  split
  · exact .inl rfl
  · split
    · exact .inr (.inr rfl)
    · exact .inr (.inl rfl)
theorem S_num1 {kk : Nat → Int} (h : kk 0 = 0 ∨ kk 0 = 2) : ∃ sh, sFold (n3' 3 0 0) kk 1 = some sh := by
  rcases h with e | e <;> simp [sFold, sStep, n3', e]
theorem S_bool1 {kk : Nat → Int} (h : kk 0 = 0 ∨ kk 0 = 1) : ∃ sh, sFold (n3' 2 0 0) kk 1 = some sh := by
  rcases h with e | e <;> simp [sFold, sStep, n3', e]
theorem S_any1 (kk : Nat → Int) : ∃ sh, sFold (n3' 1 0 0) kk 1 = some sh := by
  by_cases e : kk 0 = 0 <;> simp [sFold, sStep, n3', e]
theorem S_num2 {kk : Nat → Int} (h : kk 0 = 0 ∨ kk 0 = 2) (h' : kk 1 = 0 ∨ kk 1 = 2) : ∃ sh, sFold (n3' 3 3 0) kk 2 = some sh := by
  rcases h with e | e <;> rcases h' with f | f <;> simp [sFold, sStep, n3', e, f]
theorem S_bool2 {kk : Nat → Int} (h : kk 0 = 0 ∨ kk 0 = 1) (h' : kk 1 = 0 ∨ kk 1 = 1) : ∃ sh, sFold (n3' 2 2 0) kk 2 = some sh := by
  rcases h with e | e <;> rcases h' with f | f <;> simp [sFold, sStep, n3', e, f]
theorem S_alike2 {kk : Nat → Int} {K : Int} (hK : K = 1 ∨ K = 2 ∨ K = 3) (h : kk 0 = 0 ∨ kk 0 = K) (h' : kk 1 = 0 ∨ kk 1 = K) : ∃ sh, sFold (n3' 4 4 0) kk 2 = some sh := by
  rcases hK with rfl | rfl | rfl <;> rcases h with e | e <;> rcases h' with f | f <;> simp [sFold, sStep, n3', e, f]
theorem S_if {kk : Nat → Int} {K : Int} (hK : K = 1 ∨ K = 2 ∨ K = 3) (h0 : kk 0 = 0 ∨ kk 0 = 1) (h : kk 1 = 0 ∨ kk 1 = K) (h' : kk 2 = 0 ∨ kk 2 = K) : ∃ sh, sFold (n3' 2 4 4) kk 3 = some sh := by
  rcases hK with rfl | rfl | rfl <;> rcases h0 with g | g <;> rcases h with e | e <;> rcases h' with f | f <;> simp [sFold, sStep, n3', e, f, g]

/-! The results. -/
theorem fit_val {q : Rat} {T : Int} (h : T = 3 ∨ (T = 2 ∧ q.den = 1)) : fitB (valK q) (valD q) T = true := by
  unfold valK valD
  by_cases hs : Small q
  · rw [if_pos hs, if_pos hs]
    rcases h with rfl | ⟨rfl, hd⟩
    · rfl
    · rw [hd]; rfl
  · rw [if_neg hs, if_neg hs]; rfl
theorem of_den {p : Rat} (h : p.den = 1) : p = ((p.num : Int) : Rat) := by
  apply Rat.ext
  · rw [Rat.num_intCast]
  · rw [Rat.den_intCast]; exact h
theorem den_add {p q : Rat} (hp : p.den = 1) (hq : q.den = 1) : (p + q).den = 1 := by rw [of_den hp, of_den hq, ← Rat.intCast_add, Rat.den_intCast]
theorem den_sub {p q : Rat} (hp : p.den = 1) (hq : q.den = 1) : (p - q).den = 1 := by rw [of_den hp, of_den hq, ← Rat.intCast_sub, Rat.den_intCast]
theorem den_mul {p q : Rat} (hp : p.den = 1) (hq : q.den = 1) : (p * q).den = 1 := by rw [of_den hp, of_den hq, ← Rat.intCast_mul, Rat.den_intCast]

/-- Do returns a value that fits T. -/
def Res (w : World) (op : Int) (A : Option Addr) (n cap : Nat) (T : Int) : Prop := ∃ rk rn rd rs, Good rk rn rd rs ∧ fitB rk rd T = true ∧
  Calls Tryz.prog 18 #[.int .i64 op, .slice A n cap] w fun e w' => e = .returned (.tuple #[V rk rn rd rs, .int .i64 0]) ∧ Below w.heap.size w w'
/-- A run returns a value that fits T. -/
def Runs (w : World) (F : Nat) (A : Option Addr) (n cap : Nat) (T : Int) : Prop := ∃ rk rn rd rs, Good rk rn rd rs ∧ fitB rk rd T = true ∧
  ∀ W, Below w.heap.size w W → Calls Tryz.prog F #[.slice A n cap] W fun e w' => e = .returned (V rk rn rd rs) ∧ Below W.heap.size W w'

theorem res_of (w : World) (op : Int) (A : Option Addr) (n cap : Nat) (c n1 n2 m3 r : Int) (l : Bool) (F : Nat) (kk nn dd : Nat → Int) (ss : Nat → ByteArray) (hn : n ≤ 3) (hv : Vals w A n kk nn dd ss)
    (HF0 : ∀ W, Calls Tryz.prog 50 #[.int .i64 op, .int .i64 n] W fun e w' => e = .returned (.tuple #[.agg (o7 c n1 n2 m3 r l F).toArray, .bool true]) ∧ Below W.heap.size W w')
    (hg : ∀ k, k < n → Good (kk k) (nn k) (dd k) (ss k)) (hs : ∃ sh, sFold (n3' n1 n2 m3) kk n = some sh) (hF : Enters Tryz.prog F) (T : Int)
    (hrun : (l = true ∨ ∀ k, k < n → kk k ≠ 0) → Runs w F A n cap T) : Res w op A n cap T := by
  obtain ⟨sh, hs⟩ := hs
  have hval : ∀ k, k < n → ∀ W, Calls Tryz.prog 41 #[V (kk k) (nn k) (dd k) (ss k)] W fun e w' => e = .returned (.bool true) ∧ Below W.heap.size W w' := fun k hk W => c_validValue _ _ _ _ W (hg k hk)
  by_cases hno : l = true ∨ ∀ k, k < n → kk k ≠ 0
  · obtain ⟨rk, rn, rd, rs, h1, h2, h3⟩ := hrun hno
    exact ⟨rk, rn, rd, rs, h1, h2, d_runG w op A n cap c n1 n2 m3 r l F kk nn dd ss hn hv HF0 hval sh hs hno rk rn rd rs hF h3⟩
  · have hl : l = false := by
      cases l with
      | false => rfl
      | true => exact absurd (.inl rfl) hno
    subst hl
    have miss : ∀ j, j < n → kk j = 0 → (∀ k, k < j → kk k ≠ 0) → Res w op A n cap T := fun j hj h0 hb =>
      ⟨0, nn j, dd j, ss j, h0 ▸ hg j hj, fit_zero _ _, d_missG w op A n cap c n1 n2 m3 r F kk nn dd ss hn hv HF0 hval sh hs j hj hb h0⟩
    by_cases e0 : 0 < n ∧ kk 0 = 0
    · exact miss 0 e0.1 e0.2 (fun k hk => absurd hk (by omega))
    by_cases e1 : 1 < n ∧ kk 1 = 0
    · exact miss 1 e1.1 e1.2 (fun k hk h => e0 ⟨by omega, (show k = 0 by omega) ▸ h⟩)
    by_cases e2 : 2 < n ∧ kk 2 = 0
    · refine miss 2 e2.1 e2.2 (fun k hk h => ?_)
      rcases (by omega : k = 0 ∨ k = 1) with rfl | rfl
      · exact e0 ⟨by omega, h⟩
      · exact e1 ⟨by omega, h⟩
    · exfalso
      refine hno (.inr fun k hk h => ?_)
      rcases (by omega : k = 0 ∨ k = 1 ∨ k = 2) with rfl | rfl | rfl
      · exact e0 ⟨hk, h⟩
      · exact e1 ⟨hk, h⟩
      · exact e2 ⟨hk, h⟩
end Go.Proofs.YthppcklegdnjdaaGreatDoor
end

/- Truth values: what decides, and what is passed on; the slice may begin anywhere. -/
section
namespace Go.Proofs.YthppcklegdnjdaaGreatDoor
open Go.RowKit Go.Deep

def TwoO (w : World) (b o : Nat) (k n d : Int) (s : ByteArray) (k' n' d' : Int) (s' : ByteArray) : Prop := ∀ W, Below w.heap.size w W → (W.cell? ⟨b, o, none⟩ = some (.int .i64 k) ∧ W.cell? ⟨b, o + 1, none⟩ = some (.int .i64 n) ∧ W.cell? ⟨b, o + 2, none⟩ = some (.int .i64 d) ∧ W.cell? ⟨b, o + 3, none⟩ = some (.string s)) ∧
  (W.cell? ⟨b, o + 4, none⟩ = some (.int .i64 k') ∧ W.cell? ⟨b, o + 5, none⟩ = some (.int .i64 n') ∧ W.cell? ⟨b, o + 6, none⟩ = some (.int .i64 d') ∧ W.cell? ⟨b, o + 7, none⟩ = some (.string s'))
theorem two_ofO {w : World} {b o : Nat} {k n d : Int} {s : ByteArray} {k' n' d' : Int} {s' : ByteArray} (hb : b < w.heap.size) (h1 : ValIn w b o k n d s) (h2 : ValIn w b (o + 4) k' n' d' s') : TwoO w b o k n d s k' n' d' s' := fun _ hW => ⟨h1.below hW hb, h2.below hW hb⟩

set_option maxRecDepth 100000 in
set_option maxHeartbeats 2000000 in
theorem y_dec0_T (w : World) (b o c : Nat) (k1 n1 d1 : Int) (s1 : ByteArray) (hb : b < w.heap.size) (h1 : ValIn w b o 1 0 0 noS) (h2 : ValIn w b (o + 4) k1 n1 d1 s1) :
    Calls Tryz.prog 145 #[.slice (some ⟨b, o, none⟩) 2 c, .bool false] w fun e w' => e = .returned (V 1 0 0 noS) ∧ Below w.heap.size w w' := by
  have K := Lib.hid (two_ofO hb h1 h2)
  have hr0 := heap_alloc_new w (.cells #[.int .i64 0, .int .i64 0, .int .i64 0, .string ⟨#[]⟩] 24)
  have HR0 := Lib.hid hr0
  clear h1 h2 hr0
  go_enter Tryz.func145, Tryz.ntmps145
  go_wp2_with fail
  generalize HW : w.alloc (.cells #[.int .i64 0, .int .i64 0, .int .i64 0, .string ⟨#[]⟩] 24) = W0 at *
  have B0 : Below w.heap.size w W0 := by rw [← HW]; exact (Below.refl _ _).alloc (Nat.le_refl _) _
  have hz0 : w.heap.size < W0.heap.size := by rw [← HW]; simp
  clear HW
  have KH : Hid (∀ W, Below W0.heap.size W0 W → W.heap[w.heap.size]? = some (.cells #[.int .i64 0, .int .i64 0, .int .i64 0, .string ⟨#[]⟩] 24 (0, 0))) := fun W hW => (hW.block _ hz0).trans HR0.out
  have KR : Hid (∀ W, Below W0.heap.size W0 W → ResAt W w.heap.size) := fun W hW => res_at ((hW.block _ hz0).trans HR0.out)
  have B0d : Below W0.heap.size W0 W0.drew := Below.drew (Below.refl _ _)
  obtain ⟨⟨a0, a1, a2, a3⟩, -⟩ := K.out _ B0
  first
    | go_region_with (first | (go_at_call 82; refine (c_truth0 _).mono ?_; rintro e w1 ⟨rfl, hb1⟩; have B1 : Below W0.heap.size W0 w1 := btr B0d hb1; obtain ⟨⟨e0, e1, e2, e3⟩, -⟩ := K.out _ (btr B0 B1)))
    | fail
  all_goals
    go_wp2_with fail
    refine (c_truth0 _).mono ?_
    rintro e w3 ⟨rfl, hb3⟩
    have B3 : Below W0.heap.size W0 w3 := btr B1 hb3
    obtain ⟨r0, r1, r2, r3, f0, f1, f2, f3⟩ := KR.out _ B3
    go_wp2
    exact bodyPost_ret (v := V 1 0 0 noS) (results_cell_row Tryz.results145 _ _ w.heap.size 24 _ (0, 0) _ rfl (put4 (KH.out _ B3) _ _ _ _) Tryz.underlying24 rfl (by rw [info_v4]; rfl)) rfl ⟨rfl, below4 (btr B0 B3) _ (Nat.le_refl _) _ _ _ _⟩

set_option maxRecDepth 100000 in
set_option maxHeartbeats 2000000 in
theorem y_dec0_MT (w : World) (b o c : Nat) (n0 : Int) (hb : b < w.heap.size) (h1 : ValIn w b o 0 n0 0 noS) (h2 : ValIn w b (o + 4) 1 0 0 noS) :
    Calls Tryz.prog 145 #[.slice (some ⟨b, o, none⟩) 2 c, .bool false] w fun e w' => e = .returned (V 1 0 0 noS) ∧ Below w.heap.size w w' := by
  have K := Lib.hid (two_ofO hb h1 h2)
  have hr0 := heap_alloc_new w (.cells #[.int .i64 0, .int .i64 0, .int .i64 0, .string ⟨#[]⟩] 24)
  have HR0 := Lib.hid hr0
  clear h1 h2 hr0
  go_enter Tryz.func145, Tryz.ntmps145
  go_wp2_with fail
  generalize HW : w.alloc (.cells #[.int .i64 0, .int .i64 0, .int .i64 0, .string ⟨#[]⟩] 24) = W0 at *
  have B0 : Below w.heap.size w W0 := by rw [← HW]; exact (Below.refl _ _).alloc (Nat.le_refl _) _
  have hz0 : w.heap.size < W0.heap.size := by rw [← HW]; simp
  clear HW
  have KH : Hid (∀ W, Below W0.heap.size W0 W → W.heap[w.heap.size]? = some (.cells #[.int .i64 0, .int .i64 0, .int .i64 0, .string ⟨#[]⟩] 24 (0, 0))) := fun W hW => (hW.block _ hz0).trans HR0.out
  have KR : Hid (∀ W, Below W0.heap.size W0 W → ResAt W w.heap.size) := fun W hW => res_at ((hW.block _ hz0).trans HR0.out)
  have B0d : Below W0.heap.size W0 W0.drew := Below.drew (Below.refl _ _)
  go_region_held3 (fun w' => (w'.cell? ⟨b, o, none⟩ = some (.int .i64 0) ∧ w'.cell? ⟨b, o + 1, none⟩ = some (.int .i64 n0) ∧ w'.cell? ⟨b, o + 2, none⟩ = some (.int .i64 0) ∧ w'.cell? ⟨b, o + 3, none⟩ = some (.string noS)) ∧ (w'.cell? ⟨b, o + 4, none⟩ = some (.int .i64 1) ∧ w'.cell? ⟨b, o + 5, none⟩ = some (.int .i64 0) ∧ w'.cell? ⟨b, o + 6, none⟩ = some (.int .i64 0) ∧ w'.cell? ⟨b, o + 7, none⟩ = some (.string noS)))
    (first | exact K.out _ (btr B0 B2) | exact K.out _ (btr B0 B1) | exact K.out _ (btr B0 B0d) | exact K.out _ B0) (first
      | (go_at_call 82; refine (c_truth0 W0.drew).mono ?_; rintro e w1 ⟨rfl, hb1⟩; have B1 : Below W0.heap.size W0 w1 := btr B0d hb1)
      | (go_at_call 82; refine (c_truth0 w1).mono ?_; rintro e w2 ⟨rfl, hb2⟩; have B2 : Below W0.heap.size W0 w2 := btr B1 hb2))
  go_wp2_with fail
  refine (c_truth0 _).mono ?_
  rintro e w3 ⟨rfl, hb3⟩
  have B3 : Below W0.heap.size W0 w3 := btr B2 hb3
  obtain ⟨r0, r1, r2, r3, f0, f1, f2, f3⟩ := KR.out _ B3
  go_wp2
  exact bodyPost_ret (v := V 1 0 0 noS) (results_cell_row Tryz.results145 _ _ w.heap.size 24 _ (0, 0) _ rfl (put4 (KH.out _ B3) _ _ _ _) Tryz.underlying24 rfl (by rw [info_v4]; rfl)) rfl ⟨rfl, below4 (btr B0 B3) _ (Nat.le_refl _) _ _ _ _⟩

set_option maxRecDepth 100000 in
set_option maxHeartbeats 2000000 in
theorem y_dec0_MM (w : World) (b o c : Nat) (n0 : Int) (n1 : Int) (hb : b < w.heap.size) (h1 : ValIn w b o 0 n0 0 noS) (h2 : ValIn w b (o + 4) 0 n1 0 noS) :
    Calls Tryz.prog 145 #[.slice (some ⟨b, o, none⟩) 2 c, .bool false] w fun e w' => e = .returned (V 0 n0 0 noS) ∧ Below w.heap.size w w' := by
  have K := Lib.hid (two_ofO hb h1 h2)
  have hr0 := heap_alloc_new w (.cells #[.int .i64 0, .int .i64 0, .int .i64 0, .string ⟨#[]⟩] 24)
  have HR0 := Lib.hid hr0
  clear h1 h2 hr0
  go_enter Tryz.func145, Tryz.ntmps145
  go_wp2_with fail
  generalize HW : w.alloc (.cells #[.int .i64 0, .int .i64 0, .int .i64 0, .string ⟨#[]⟩] 24) = W0 at *
  have B0 : Below w.heap.size w W0 := by rw [← HW]; exact (Below.refl _ _).alloc (Nat.le_refl _) _
  have hz0 : w.heap.size < W0.heap.size := by rw [← HW]; simp
  clear HW
  have KH : Hid (∀ W, Below W0.heap.size W0 W → W.heap[w.heap.size]? = some (.cells #[.int .i64 0, .int .i64 0, .int .i64 0, .string ⟨#[]⟩] 24 (0, 0))) := fun W hW => (hW.block _ hz0).trans HR0.out
  have KR : Hid (∀ W, Below W0.heap.size W0 W → ResAt W w.heap.size) := fun W hW => res_at ((hW.block _ hz0).trans HR0.out)
  have B0d : Below W0.heap.size W0 W0.drew := Below.drew (Below.refl _ _)
  go_region_held3 (fun w' => (w'.cell? ⟨b, o, none⟩ = some (.int .i64 0) ∧ w'.cell? ⟨b, o + 1, none⟩ = some (.int .i64 n0) ∧ w'.cell? ⟨b, o + 2, none⟩ = some (.int .i64 0) ∧ w'.cell? ⟨b, o + 3, none⟩ = some (.string noS)) ∧ (w'.cell? ⟨b, o + 4, none⟩ = some (.int .i64 0) ∧ w'.cell? ⟨b, o + 5, none⟩ = some (.int .i64 n1) ∧ w'.cell? ⟨b, o + 6, none⟩ = some (.int .i64 0) ∧ w'.cell? ⟨b, o + 7, none⟩ = some (.string noS)))
    (first | exact K.out _ (btr B0 B2) | exact K.out _ (btr B0 B1) | exact K.out _ (btr B0 B0d) | exact K.out _ B0) (first
      | (go_at_call 82; refine (c_truth0 W0.drew).mono ?_; rintro e w1 ⟨rfl, hb1⟩; have B1 : Below W0.heap.size W0 w1 := btr B0d hb1)
      | (go_at_call 82; refine (c_truth0 w1).mono ?_; rintro e w2 ⟨rfl, hb2⟩; have B2 : Below W0.heap.size W0 w2 := btr B1 hb2))
  go_wp2_with fail
  have B2d : Below W0.heap.size W0 w2.drew := Below.drew B2
  go_region_held3 (fun w' => (w'.cell? ⟨b, o, none⟩ = some (.int .i64 0) ∧ w'.cell? ⟨b, o + 1, none⟩ = some (.int .i64 n0) ∧ w'.cell? ⟨b, o + 2, none⟩ = some (.int .i64 0) ∧ w'.cell? ⟨b, o + 3, none⟩ = some (.string noS)) ∧ (w'.cell? ⟨b, o + 4, none⟩ = some (.int .i64 0) ∧ w'.cell? ⟨b, o + 5, none⟩ = some (.int .i64 n1) ∧ w'.cell? ⟨b, o + 6, none⟩ = some (.int .i64 0) ∧ w'.cell? ⟨b, o + 7, none⟩ = some (.string noS)))
    (first | exact K.out _ (((((btr B0 B4).setCell (p := ⟨w.heap.size, 0, none⟩) (Nat.le_refl w.heap.size) _).setCell (p := ⟨w.heap.size, 1, none⟩) (Nat.le_refl w.heap.size) _).setCell (p := ⟨w.heap.size, 2, none⟩) (Nat.le_refl w.heap.size) _).setCell (p := ⟨w.heap.size, 3, none⟩) (Nat.le_refl w.heap.size) _) | exact K.out _ (btr B0 B4) | exact K.out _ (btr B0 B3) | exact K.out _ (btr B0 B2d) | exact K.out _ (btr B0 B2)) (first
      | (go_at_call 55; refine (c_isMissing0 n0 0 noS _).mono ?_; rintro e w3 ⟨rfl, hb3⟩; have B3 : Below W0.heap.size W0 w3 := btr B2d hb3)
      | (go_at_call 148; refine (c_chosen true 0 n0 0 noS 0 n1 0 noS _).mono ?_; rintro e w4 ⟨rfl, hb4⟩; have B4 : Below W0.heap.size W0 w4 := btr B3 hb4; obtain ⟨r0, r1, r2, r3, f0, f1, f2, f3⟩ := KR.out _ B4))
  go_wp2
  exact bodyPost_ret (v := V 0 n0 0 noS) (results_cell_row Tryz.results145 _ _ w.heap.size 24 _ (0, 0) _ rfl (put4 (KH.out _ B4) _ _ _ _) Tryz.underlying24 rfl (by rw [info_v4]; rfl)) rfl ⟨rfl, below4 (btr B0 B4) _ (Nat.le_refl _) _ _ _ _⟩

set_option maxRecDepth 100000 in
set_option maxHeartbeats 2000000 in
theorem y_dec0_MO (w : World) (b o c : Nat) (n0 : Int) (hb : b < w.heap.size) (h1 : ValIn w b o 0 n0 0 noS) (h2 : ValIn w b (o + 4) 1 1 0 noS) :
    Calls Tryz.prog 145 #[.slice (some ⟨b, o, none⟩) 2 c, .bool false] w fun e w' => e = .returned (V 0 n0 0 noS) ∧ Below w.heap.size w w' := by
  have K := Lib.hid (two_ofO hb h1 h2)
  have hr0 := heap_alloc_new w (.cells #[.int .i64 0, .int .i64 0, .int .i64 0, .string ⟨#[]⟩] 24)
  have HR0 := Lib.hid hr0
  clear h1 h2 hr0
  go_enter Tryz.func145, Tryz.ntmps145
  go_wp2_with fail
  generalize HW : w.alloc (.cells #[.int .i64 0, .int .i64 0, .int .i64 0, .string ⟨#[]⟩] 24) = W0 at *
  have B0 : Below w.heap.size w W0 := by rw [← HW]; exact (Below.refl _ _).alloc (Nat.le_refl _) _
  have hz0 : w.heap.size < W0.heap.size := by rw [← HW]; simp
  clear HW
  have KH : Hid (∀ W, Below W0.heap.size W0 W → W.heap[w.heap.size]? = some (.cells #[.int .i64 0, .int .i64 0, .int .i64 0, .string ⟨#[]⟩] 24 (0, 0))) := fun W hW => (hW.block _ hz0).trans HR0.out
  have KR : Hid (∀ W, Below W0.heap.size W0 W → ResAt W w.heap.size) := fun W hW => res_at ((hW.block _ hz0).trans HR0.out)
  have B0d : Below W0.heap.size W0 W0.drew := Below.drew (Below.refl _ _)
  go_region_held3 (fun w' => (w'.cell? ⟨b, o, none⟩ = some (.int .i64 0) ∧ w'.cell? ⟨b, o + 1, none⟩ = some (.int .i64 n0) ∧ w'.cell? ⟨b, o + 2, none⟩ = some (.int .i64 0) ∧ w'.cell? ⟨b, o + 3, none⟩ = some (.string noS)) ∧ (w'.cell? ⟨b, o + 4, none⟩ = some (.int .i64 1) ∧ w'.cell? ⟨b, o + 5, none⟩ = some (.int .i64 1) ∧ w'.cell? ⟨b, o + 6, none⟩ = some (.int .i64 0) ∧ w'.cell? ⟨b, o + 7, none⟩ = some (.string noS)))
    (first | exact K.out _ (btr B0 B2) | exact K.out _ (btr B0 B1) | exact K.out _ (btr B0 B0d) | exact K.out _ B0) (first
      | (go_at_call 82; refine (c_truth0 W0.drew).mono ?_; rintro e w1 ⟨rfl, hb1⟩; have B1 : Below W0.heap.size W0 w1 := btr B0d hb1)
      | (go_at_call 82; refine (c_truth0 w1).mono ?_; rintro e w2 ⟨rfl, hb2⟩; have B2 : Below W0.heap.size W0 w2 := btr B1 hb2))
  go_wp2_with fail
  have B2d : Below W0.heap.size W0 w2.drew := Below.drew B2
  go_region_held3 (fun w' => (w'.cell? ⟨b, o, none⟩ = some (.int .i64 0) ∧ w'.cell? ⟨b, o + 1, none⟩ = some (.int .i64 n0) ∧ w'.cell? ⟨b, o + 2, none⟩ = some (.int .i64 0) ∧ w'.cell? ⟨b, o + 3, none⟩ = some (.string noS)) ∧ (w'.cell? ⟨b, o + 4, none⟩ = some (.int .i64 1) ∧ w'.cell? ⟨b, o + 5, none⟩ = some (.int .i64 1) ∧ w'.cell? ⟨b, o + 6, none⟩ = some (.int .i64 0) ∧ w'.cell? ⟨b, o + 7, none⟩ = some (.string noS)))
    (first | exact K.out _ (((((btr B0 B4).setCell (p := ⟨w.heap.size, 0, none⟩) (Nat.le_refl w.heap.size) _).setCell (p := ⟨w.heap.size, 1, none⟩) (Nat.le_refl w.heap.size) _).setCell (p := ⟨w.heap.size, 2, none⟩) (Nat.le_refl w.heap.size) _).setCell (p := ⟨w.heap.size, 3, none⟩) (Nat.le_refl w.heap.size) _) | exact K.out _ (btr B0 B4) | exact K.out _ (btr B0 B3) | exact K.out _ (btr B0 B2d) | exact K.out _ (btr B0 B2)) (first
      | (go_at_call 55; refine (c_isMissing0 n0 0 noS _).mono ?_; rintro e w3 ⟨rfl, hb3⟩; have B3 : Below W0.heap.size W0 w3 := btr B2d hb3)
      | (go_at_call 148; refine (c_chosen true 0 n0 0 noS 1 1 0 noS _).mono ?_; rintro e w4 ⟨rfl, hb4⟩; have B4 : Below W0.heap.size W0 w4 := btr B3 hb4; obtain ⟨r0, r1, r2, r3, f0, f1, f2, f3⟩ := KR.out _ B4))
  go_wp2
  exact bodyPost_ret (v := V 0 n0 0 noS) (results_cell_row Tryz.results145 _ _ w.heap.size 24 _ (0, 0) _ rfl (put4 (KH.out _ B4) _ _ _ _) Tryz.underlying24 rfl (by rw [info_v4]; rfl)) rfl ⟨rfl, below4 (btr B0 B4) _ (Nat.le_refl _) _ _ _ _⟩

set_option maxRecDepth 100000 in
set_option maxHeartbeats 2000000 in
theorem y_dec0_OT (w : World) (b o c : Nat) (hb : b < w.heap.size) (h1 : ValIn w b o 1 1 0 noS) (h2 : ValIn w b (o + 4) 1 0 0 noS) :
    Calls Tryz.prog 145 #[.slice (some ⟨b, o, none⟩) 2 c, .bool false] w fun e w' => e = .returned (V 1 0 0 noS) ∧ Below w.heap.size w w' := by
  have K := Lib.hid (two_ofO hb h1 h2)
  have hr0 := heap_alloc_new w (.cells #[.int .i64 0, .int .i64 0, .int .i64 0, .string ⟨#[]⟩] 24)
  have HR0 := Lib.hid hr0
  clear h1 h2 hr0
  go_enter Tryz.func145, Tryz.ntmps145
  go_wp2_with fail
  generalize HW : w.alloc (.cells #[.int .i64 0, .int .i64 0, .int .i64 0, .string ⟨#[]⟩] 24) = W0 at *
  have B0 : Below w.heap.size w W0 := by rw [← HW]; exact (Below.refl _ _).alloc (Nat.le_refl _) _
  have hz0 : w.heap.size < W0.heap.size := by rw [← HW]; simp
  clear HW
  have KH : Hid (∀ W, Below W0.heap.size W0 W → W.heap[w.heap.size]? = some (.cells #[.int .i64 0, .int .i64 0, .int .i64 0, .string ⟨#[]⟩] 24 (0, 0))) := fun W hW => (hW.block _ hz0).trans HR0.out
  have KR : Hid (∀ W, Below W0.heap.size W0 W → ResAt W w.heap.size) := fun W hW => res_at ((hW.block _ hz0).trans HR0.out)
  have B0d : Below W0.heap.size W0 W0.drew := Below.drew (Below.refl _ _)
  go_region_held3 (fun w' => (w'.cell? ⟨b, o, none⟩ = some (.int .i64 1) ∧ w'.cell? ⟨b, o + 1, none⟩ = some (.int .i64 1) ∧ w'.cell? ⟨b, o + 2, none⟩ = some (.int .i64 0) ∧ w'.cell? ⟨b, o + 3, none⟩ = some (.string noS)) ∧ (w'.cell? ⟨b, o + 4, none⟩ = some (.int .i64 1) ∧ w'.cell? ⟨b, o + 5, none⟩ = some (.int .i64 0) ∧ w'.cell? ⟨b, o + 6, none⟩ = some (.int .i64 0) ∧ w'.cell? ⟨b, o + 7, none⟩ = some (.string noS)))
    (first | exact K.out _ (btr B0 B2) | exact K.out _ (btr B0 B1) | exact K.out _ (btr B0 B0d) | exact K.out _ B0) (first
      | (go_at_call 82; refine (c_truth0 W0.drew).mono ?_; rintro e w1 ⟨rfl, hb1⟩; have B1 : Below W0.heap.size W0 w1 := btr B0d hb1)
      | (go_at_call 82; refine (c_truth0 w1).mono ?_; rintro e w2 ⟨rfl, hb2⟩; have B2 : Below W0.heap.size W0 w2 := btr B1 hb2))
  go_wp2_with fail
  refine (c_truth0 _).mono ?_
  rintro e w3 ⟨rfl, hb3⟩
  have B3 : Below W0.heap.size W0 w3 := btr B2 hb3
  obtain ⟨r0, r1, r2, r3, f0, f1, f2, f3⟩ := KR.out _ B3
  go_wp2
  exact bodyPost_ret (v := V 1 0 0 noS) (results_cell_row Tryz.results145 _ _ w.heap.size 24 _ (0, 0) _ rfl (put4 (KH.out _ B3) _ _ _ _) Tryz.underlying24 rfl (by rw [info_v4]; rfl)) rfl ⟨rfl, below4 (btr B0 B3) _ (Nat.le_refl _) _ _ _ _⟩

set_option maxRecDepth 100000 in
set_option maxHeartbeats 2000000 in
theorem y_dec0_OM (w : World) (b o c : Nat) (n1 : Int) (hb : b < w.heap.size) (h1 : ValIn w b o 1 1 0 noS) (h2 : ValIn w b (o + 4) 0 n1 0 noS) :
    Calls Tryz.prog 145 #[.slice (some ⟨b, o, none⟩) 2 c, .bool false] w fun e w' => e = .returned (V 0 n1 0 noS) ∧ Below w.heap.size w w' := by
  have K := Lib.hid (two_ofO hb h1 h2)
  have hr0 := heap_alloc_new w (.cells #[.int .i64 0, .int .i64 0, .int .i64 0, .string ⟨#[]⟩] 24)
  have HR0 := Lib.hid hr0
  clear h1 h2 hr0
  go_enter Tryz.func145, Tryz.ntmps145
  go_wp2_with fail
  generalize HW : w.alloc (.cells #[.int .i64 0, .int .i64 0, .int .i64 0, .string ⟨#[]⟩] 24) = W0 at *
  have B0 : Below w.heap.size w W0 := by rw [← HW]; exact (Below.refl _ _).alloc (Nat.le_refl _) _
  have hz0 : w.heap.size < W0.heap.size := by rw [← HW]; simp
  clear HW
  have KH : Hid (∀ W, Below W0.heap.size W0 W → W.heap[w.heap.size]? = some (.cells #[.int .i64 0, .int .i64 0, .int .i64 0, .string ⟨#[]⟩] 24 (0, 0))) := fun W hW => (hW.block _ hz0).trans HR0.out
  have KR : Hid (∀ W, Below W0.heap.size W0 W → ResAt W w.heap.size) := fun W hW => res_at ((hW.block _ hz0).trans HR0.out)
  have B0d : Below W0.heap.size W0 W0.drew := Below.drew (Below.refl _ _)
  go_region_held3 (fun w' => (w'.cell? ⟨b, o, none⟩ = some (.int .i64 1) ∧ w'.cell? ⟨b, o + 1, none⟩ = some (.int .i64 1) ∧ w'.cell? ⟨b, o + 2, none⟩ = some (.int .i64 0) ∧ w'.cell? ⟨b, o + 3, none⟩ = some (.string noS)) ∧ (w'.cell? ⟨b, o + 4, none⟩ = some (.int .i64 0) ∧ w'.cell? ⟨b, o + 5, none⟩ = some (.int .i64 n1) ∧ w'.cell? ⟨b, o + 6, none⟩ = some (.int .i64 0) ∧ w'.cell? ⟨b, o + 7, none⟩ = some (.string noS)))
    (first | exact K.out _ (btr B0 B2) | exact K.out _ (btr B0 B1) | exact K.out _ (btr B0 B0d) | exact K.out _ B0) (first
      | (go_at_call 82; refine (c_truth0 W0.drew).mono ?_; rintro e w1 ⟨rfl, hb1⟩; have B1 : Below W0.heap.size W0 w1 := btr B0d hb1)
      | (go_at_call 82; refine (c_truth0 w1).mono ?_; rintro e w2 ⟨rfl, hb2⟩; have B2 : Below W0.heap.size W0 w2 := btr B1 hb2))
  go_wp2_with fail
  have B2d : Below W0.heap.size W0 w2.drew := Below.drew B2
  go_region_held3 (fun w' => (w'.cell? ⟨b, o, none⟩ = some (.int .i64 1) ∧ w'.cell? ⟨b, o + 1, none⟩ = some (.int .i64 1) ∧ w'.cell? ⟨b, o + 2, none⟩ = some (.int .i64 0) ∧ w'.cell? ⟨b, o + 3, none⟩ = some (.string noS)) ∧ (w'.cell? ⟨b, o + 4, none⟩ = some (.int .i64 0) ∧ w'.cell? ⟨b, o + 5, none⟩ = some (.int .i64 n1) ∧ w'.cell? ⟨b, o + 6, none⟩ = some (.int .i64 0) ∧ w'.cell? ⟨b, o + 7, none⟩ = some (.string noS)))
    (first | exact K.out _ (((((btr B0 B4).setCell (p := ⟨w.heap.size, 0, none⟩) (Nat.le_refl w.heap.size) _).setCell (p := ⟨w.heap.size, 1, none⟩) (Nat.le_refl w.heap.size) _).setCell (p := ⟨w.heap.size, 2, none⟩) (Nat.le_refl w.heap.size) _).setCell (p := ⟨w.heap.size, 3, none⟩) (Nat.le_refl w.heap.size) _) | exact K.out _ (btr B0 B4) | exact K.out _ (btr B0 B3) | exact K.out _ (btr B0 B2d) | exact K.out _ (btr B0 B2)) (first
      | (go_at_call 55; refine (c_isMissing1 1 0 noS _).mono ?_; rintro e w3 ⟨rfl, hb3⟩; have B3 : Below W0.heap.size W0 w3 := btr B2d hb3)
      | (go_at_call 148; refine (c_chosen false 1 1 0 noS 0 n1 0 noS _).mono ?_; rintro e w4 ⟨rfl, hb4⟩; have B4 : Below W0.heap.size W0 w4 := btr B3 hb4; obtain ⟨r0, r1, r2, r3, f0, f1, f2, f3⟩ := KR.out _ B4))
  go_wp2
  exact bodyPost_ret (v := V 0 n1 0 noS) (results_cell_row Tryz.results145 _ _ w.heap.size 24 _ (0, 0) _ rfl (put4 (KH.out _ B4) _ _ _ _) Tryz.underlying24 rfl (by rw [info_v4]; rfl)) rfl ⟨rfl, below4 (btr B0 B4) _ (Nat.le_refl _) _ _ _ _⟩

set_option maxRecDepth 100000 in
set_option maxHeartbeats 2000000 in
theorem y_dec0_OO (w : World) (b o c : Nat) (hb : b < w.heap.size) (h1 : ValIn w b o 1 1 0 noS) (h2 : ValIn w b (o + 4) 1 1 0 noS) :
    Calls Tryz.prog 145 #[.slice (some ⟨b, o, none⟩) 2 c, .bool false] w fun e w' => e = .returned (V 1 1 0 noS) ∧ Below w.heap.size w w' := by
  have K := Lib.hid (two_ofO hb h1 h2)
  have hr0 := heap_alloc_new w (.cells #[.int .i64 0, .int .i64 0, .int .i64 0, .string ⟨#[]⟩] 24)
  have HR0 := Lib.hid hr0
  clear h1 h2 hr0
  go_enter Tryz.func145, Tryz.ntmps145
  go_wp2_with fail
  generalize HW : w.alloc (.cells #[.int .i64 0, .int .i64 0, .int .i64 0, .string ⟨#[]⟩] 24) = W0 at *
  have B0 : Below w.heap.size w W0 := by rw [← HW]; exact (Below.refl _ _).alloc (Nat.le_refl _) _
  have hz0 : w.heap.size < W0.heap.size := by rw [← HW]; simp
  clear HW
  have KH : Hid (∀ W, Below W0.heap.size W0 W → W.heap[w.heap.size]? = some (.cells #[.int .i64 0, .int .i64 0, .int .i64 0, .string ⟨#[]⟩] 24 (0, 0))) := fun W hW => (hW.block _ hz0).trans HR0.out
  have KR : Hid (∀ W, Below W0.heap.size W0 W → ResAt W w.heap.size) := fun W hW => res_at ((hW.block _ hz0).trans HR0.out)
  have B0d : Below W0.heap.size W0 W0.drew := Below.drew (Below.refl _ _)
  go_region_held3 (fun w' => (w'.cell? ⟨b, o, none⟩ = some (.int .i64 1) ∧ w'.cell? ⟨b, o + 1, none⟩ = some (.int .i64 1) ∧ w'.cell? ⟨b, o + 2, none⟩ = some (.int .i64 0) ∧ w'.cell? ⟨b, o + 3, none⟩ = some (.string noS)) ∧ (w'.cell? ⟨b, o + 4, none⟩ = some (.int .i64 1) ∧ w'.cell? ⟨b, o + 5, none⟩ = some (.int .i64 1) ∧ w'.cell? ⟨b, o + 6, none⟩ = some (.int .i64 0) ∧ w'.cell? ⟨b, o + 7, none⟩ = some (.string noS)))
    (first | exact K.out _ (btr B0 B2) | exact K.out _ (btr B0 B1) | exact K.out _ (btr B0 B0d) | exact K.out _ B0) (first
      | (go_at_call 82; refine (c_truth0 W0.drew).mono ?_; rintro e w1 ⟨rfl, hb1⟩; have B1 : Below W0.heap.size W0 w1 := btr B0d hb1)
      | (go_at_call 82; refine (c_truth0 w1).mono ?_; rintro e w2 ⟨rfl, hb2⟩; have B2 : Below W0.heap.size W0 w2 := btr B1 hb2))
  go_wp2_with fail
  have B2d : Below W0.heap.size W0 w2.drew := Below.drew B2
  go_region_held3 (fun w' => (w'.cell? ⟨b, o, none⟩ = some (.int .i64 1) ∧ w'.cell? ⟨b, o + 1, none⟩ = some (.int .i64 1) ∧ w'.cell? ⟨b, o + 2, none⟩ = some (.int .i64 0) ∧ w'.cell? ⟨b, o + 3, none⟩ = some (.string noS)) ∧ (w'.cell? ⟨b, o + 4, none⟩ = some (.int .i64 1) ∧ w'.cell? ⟨b, o + 5, none⟩ = some (.int .i64 1) ∧ w'.cell? ⟨b, o + 6, none⟩ = some (.int .i64 0) ∧ w'.cell? ⟨b, o + 7, none⟩ = some (.string noS)))
    (first | exact K.out _ (((((btr B0 B4).setCell (p := ⟨w.heap.size, 0, none⟩) (Nat.le_refl w.heap.size) _).setCell (p := ⟨w.heap.size, 1, none⟩) (Nat.le_refl w.heap.size) _).setCell (p := ⟨w.heap.size, 2, none⟩) (Nat.le_refl w.heap.size) _).setCell (p := ⟨w.heap.size, 3, none⟩) (Nat.le_refl w.heap.size) _) | exact K.out _ (btr B0 B4) | exact K.out _ (btr B0 B3) | exact K.out _ (btr B0 B2d) | exact K.out _ (btr B0 B2)) (first
      | (go_at_call 55; refine (c_isMissing1 1 0 noS _).mono ?_; rintro e w3 ⟨rfl, hb3⟩; have B3 : Below W0.heap.size W0 w3 := btr B2d hb3)
      | (go_at_call 148; refine (c_chosen false 1 1 0 noS 1 1 0 noS _).mono ?_; rintro e w4 ⟨rfl, hb4⟩; have B4 : Below W0.heap.size W0 w4 := btr B3 hb4; obtain ⟨r0, r1, r2, r3, f0, f1, f2, f3⟩ := KR.out _ B4))
  go_wp2
  exact bodyPost_ret (v := V 1 1 0 noS) (results_cell_row Tryz.results145 _ _ w.heap.size 24 _ (0, 0) _ rfl (put4 (KH.out _ B4) _ _ _ _) Tryz.underlying24 rfl (by rw [info_v4]; rfl)) rfl ⟨rfl, below4 (btr B0 B4) _ (Nat.le_refl _) _ _ _ _⟩

set_option maxRecDepth 100000 in
set_option maxHeartbeats 2000000 in
theorem y_dec1_T (w : World) (b o c : Nat) (k1 n1 d1 : Int) (s1 : ByteArray) (hb : b < w.heap.size) (h1 : ValIn w b o 1 1 0 noS) (h2 : ValIn w b (o + 4) k1 n1 d1 s1) :
    Calls Tryz.prog 145 #[.slice (some ⟨b, o, none⟩) 2 c, .bool true] w fun e w' => e = .returned (V 1 1 0 noS) ∧ Below w.heap.size w w' := by
  have K := Lib.hid (two_ofO hb h1 h2)
  have hr0 := heap_alloc_new w (.cells #[.int .i64 0, .int .i64 0, .int .i64 0, .string ⟨#[]⟩] 24)
  have HR0 := Lib.hid hr0
  clear h1 h2 hr0
  go_enter Tryz.func145, Tryz.ntmps145
  go_wp2_with fail
  generalize HW : w.alloc (.cells #[.int .i64 0, .int .i64 0, .int .i64 0, .string ⟨#[]⟩] 24) = W0 at *
  have B0 : Below w.heap.size w W0 := by rw [← HW]; exact (Below.refl _ _).alloc (Nat.le_refl _) _
  have hz0 : w.heap.size < W0.heap.size := by rw [← HW]; simp
  clear HW
  have KH : Hid (∀ W, Below W0.heap.size W0 W → W.heap[w.heap.size]? = some (.cells #[.int .i64 0, .int .i64 0, .int .i64 0, .string ⟨#[]⟩] 24 (0, 0))) := fun W hW => (hW.block _ hz0).trans HR0.out
  have KR : Hid (∀ W, Below W0.heap.size W0 W → ResAt W w.heap.size) := fun W hW => res_at ((hW.block _ hz0).trans HR0.out)
  have B0d : Below W0.heap.size W0 W0.drew := Below.drew (Below.refl _ _)
  obtain ⟨⟨a0, a1, a2, a3⟩, -⟩ := K.out _ B0
  first
    | go_region_with (first | (go_at_call 82; refine (c_truth1 _).mono ?_; rintro e w1 ⟨rfl, hb1⟩; have B1 : Below W0.heap.size W0 w1 := btr B0d hb1; obtain ⟨⟨e0, e1, e2, e3⟩, -⟩ := K.out _ (btr B0 B1)))
    | fail
  all_goals
    go_wp2_with fail
    refine (c_truth1 _).mono ?_
    rintro e w3 ⟨rfl, hb3⟩
    have B3 : Below W0.heap.size W0 w3 := btr B1 hb3
    obtain ⟨r0, r1, r2, r3, f0, f1, f2, f3⟩ := KR.out _ B3
    go_wp2
    exact bodyPost_ret (v := V 1 1 0 noS) (results_cell_row Tryz.results145 _ _ w.heap.size 24 _ (0, 0) _ rfl (put4 (KH.out _ B3) _ _ _ _) Tryz.underlying24 rfl (by rw [info_v4]; rfl)) rfl ⟨rfl, below4 (btr B0 B3) _ (Nat.le_refl _) _ _ _ _⟩

set_option maxRecDepth 100000 in
set_option maxHeartbeats 2000000 in
theorem y_dec1_MT (w : World) (b o c : Nat) (n0 : Int) (hb : b < w.heap.size) (h1 : ValIn w b o 0 n0 0 noS) (h2 : ValIn w b (o + 4) 1 1 0 noS) :
    Calls Tryz.prog 145 #[.slice (some ⟨b, o, none⟩) 2 c, .bool true] w fun e w' => e = .returned (V 1 1 0 noS) ∧ Below w.heap.size w w' := by
  have K := Lib.hid (two_ofO hb h1 h2)
  have hr0 := heap_alloc_new w (.cells #[.int .i64 0, .int .i64 0, .int .i64 0, .string ⟨#[]⟩] 24)
  have HR0 := Lib.hid hr0
  clear h1 h2 hr0
  go_enter Tryz.func145, Tryz.ntmps145
  go_wp2_with fail
  generalize HW : w.alloc (.cells #[.int .i64 0, .int .i64 0, .int .i64 0, .string ⟨#[]⟩] 24) = W0 at *
  have B0 : Below w.heap.size w W0 := by rw [← HW]; exact (Below.refl _ _).alloc (Nat.le_refl _) _
  have hz0 : w.heap.size < W0.heap.size := by rw [← HW]; simp
  clear HW
  have KH : Hid (∀ W, Below W0.heap.size W0 W → W.heap[w.heap.size]? = some (.cells #[.int .i64 0, .int .i64 0, .int .i64 0, .string ⟨#[]⟩] 24 (0, 0))) := fun W hW => (hW.block _ hz0).trans HR0.out
  have KR : Hid (∀ W, Below W0.heap.size W0 W → ResAt W w.heap.size) := fun W hW => res_at ((hW.block _ hz0).trans HR0.out)
  have B0d : Below W0.heap.size W0 W0.drew := Below.drew (Below.refl _ _)
  go_region_held3 (fun w' => (w'.cell? ⟨b, o, none⟩ = some (.int .i64 0) ∧ w'.cell? ⟨b, o + 1, none⟩ = some (.int .i64 n0) ∧ w'.cell? ⟨b, o + 2, none⟩ = some (.int .i64 0) ∧ w'.cell? ⟨b, o + 3, none⟩ = some (.string noS)) ∧ (w'.cell? ⟨b, o + 4, none⟩ = some (.int .i64 1) ∧ w'.cell? ⟨b, o + 5, none⟩ = some (.int .i64 1) ∧ w'.cell? ⟨b, o + 6, none⟩ = some (.int .i64 0) ∧ w'.cell? ⟨b, o + 7, none⟩ = some (.string noS)))
    (first | exact K.out _ (btr B0 B2) | exact K.out _ (btr B0 B1) | exact K.out _ (btr B0 B0d) | exact K.out _ B0) (first
      | (go_at_call 82; refine (c_truth1 W0.drew).mono ?_; rintro e w1 ⟨rfl, hb1⟩; have B1 : Below W0.heap.size W0 w1 := btr B0d hb1)
      | (go_at_call 82; refine (c_truth1 w1).mono ?_; rintro e w2 ⟨rfl, hb2⟩; have B2 : Below W0.heap.size W0 w2 := btr B1 hb2))
  go_wp2_with fail
  refine (c_truth1 _).mono ?_
  rintro e w3 ⟨rfl, hb3⟩
  have B3 : Below W0.heap.size W0 w3 := btr B2 hb3
  obtain ⟨r0, r1, r2, r3, f0, f1, f2, f3⟩ := KR.out _ B3
  go_wp2
  exact bodyPost_ret (v := V 1 1 0 noS) (results_cell_row Tryz.results145 _ _ w.heap.size 24 _ (0, 0) _ rfl (put4 (KH.out _ B3) _ _ _ _) Tryz.underlying24 rfl (by rw [info_v4]; rfl)) rfl ⟨rfl, below4 (btr B0 B3) _ (Nat.le_refl _) _ _ _ _⟩

set_option maxRecDepth 100000 in
set_option maxHeartbeats 2000000 in
theorem y_dec1_MM (w : World) (b o c : Nat) (n0 : Int) (n1 : Int) (hb : b < w.heap.size) (h1 : ValIn w b o 0 n0 0 noS) (h2 : ValIn w b (o + 4) 0 n1 0 noS) :
    Calls Tryz.prog 145 #[.slice (some ⟨b, o, none⟩) 2 c, .bool true] w fun e w' => e = .returned (V 0 n0 0 noS) ∧ Below w.heap.size w w' := by
  have K := Lib.hid (two_ofO hb h1 h2)
  have hr0 := heap_alloc_new w (.cells #[.int .i64 0, .int .i64 0, .int .i64 0, .string ⟨#[]⟩] 24)
  have HR0 := Lib.hid hr0
  clear h1 h2 hr0
  go_enter Tryz.func145, Tryz.ntmps145
  go_wp2_with fail
  generalize HW : w.alloc (.cells #[.int .i64 0, .int .i64 0, .int .i64 0, .string ⟨#[]⟩] 24) = W0 at *
  have B0 : Below w.heap.size w W0 := by rw [← HW]; exact (Below.refl _ _).alloc (Nat.le_refl _) _
  have hz0 : w.heap.size < W0.heap.size := by rw [← HW]; simp
  clear HW
  have KH : Hid (∀ W, Below W0.heap.size W0 W → W.heap[w.heap.size]? = some (.cells #[.int .i64 0, .int .i64 0, .int .i64 0, .string ⟨#[]⟩] 24 (0, 0))) := fun W hW => (hW.block _ hz0).trans HR0.out
  have KR : Hid (∀ W, Below W0.heap.size W0 W → ResAt W w.heap.size) := fun W hW => res_at ((hW.block _ hz0).trans HR0.out)
  have B0d : Below W0.heap.size W0 W0.drew := Below.drew (Below.refl _ _)
  go_region_held3 (fun w' => (w'.cell? ⟨b, o, none⟩ = some (.int .i64 0) ∧ w'.cell? ⟨b, o + 1, none⟩ = some (.int .i64 n0) ∧ w'.cell? ⟨b, o + 2, none⟩ = some (.int .i64 0) ∧ w'.cell? ⟨b, o + 3, none⟩ = some (.string noS)) ∧ (w'.cell? ⟨b, o + 4, none⟩ = some (.int .i64 0) ∧ w'.cell? ⟨b, o + 5, none⟩ = some (.int .i64 n1) ∧ w'.cell? ⟨b, o + 6, none⟩ = some (.int .i64 0) ∧ w'.cell? ⟨b, o + 7, none⟩ = some (.string noS)))
    (first | exact K.out _ (btr B0 B2) | exact K.out _ (btr B0 B1) | exact K.out _ (btr B0 B0d) | exact K.out _ B0) (first
      | (go_at_call 82; refine (c_truth1 W0.drew).mono ?_; rintro e w1 ⟨rfl, hb1⟩; have B1 : Below W0.heap.size W0 w1 := btr B0d hb1)
      | (go_at_call 82; refine (c_truth1 w1).mono ?_; rintro e w2 ⟨rfl, hb2⟩; have B2 : Below W0.heap.size W0 w2 := btr B1 hb2))
  go_wp2_with fail
  have B2d : Below W0.heap.size W0 w2.drew := Below.drew B2
  go_region_held3 (fun w' => (w'.cell? ⟨b, o, none⟩ = some (.int .i64 0) ∧ w'.cell? ⟨b, o + 1, none⟩ = some (.int .i64 n0) ∧ w'.cell? ⟨b, o + 2, none⟩ = some (.int .i64 0) ∧ w'.cell? ⟨b, o + 3, none⟩ = some (.string noS)) ∧ (w'.cell? ⟨b, o + 4, none⟩ = some (.int .i64 0) ∧ w'.cell? ⟨b, o + 5, none⟩ = some (.int .i64 n1) ∧ w'.cell? ⟨b, o + 6, none⟩ = some (.int .i64 0) ∧ w'.cell? ⟨b, o + 7, none⟩ = some (.string noS)))
    (first | exact K.out _ (((((btr B0 B4).setCell (p := ⟨w.heap.size, 0, none⟩) (Nat.le_refl w.heap.size) _).setCell (p := ⟨w.heap.size, 1, none⟩) (Nat.le_refl w.heap.size) _).setCell (p := ⟨w.heap.size, 2, none⟩) (Nat.le_refl w.heap.size) _).setCell (p := ⟨w.heap.size, 3, none⟩) (Nat.le_refl w.heap.size) _) | exact K.out _ (btr B0 B4) | exact K.out _ (btr B0 B3) | exact K.out _ (btr B0 B2d) | exact K.out _ (btr B0 B2)) (first
      | (go_at_call 55; refine (c_isMissing0 n0 0 noS _).mono ?_; rintro e w3 ⟨rfl, hb3⟩; have B3 : Below W0.heap.size W0 w3 := btr B2d hb3)
      | (go_at_call 148; refine (c_chosen true 0 n0 0 noS 0 n1 0 noS _).mono ?_; rintro e w4 ⟨rfl, hb4⟩; have B4 : Below W0.heap.size W0 w4 := btr B3 hb4; obtain ⟨r0, r1, r2, r3, f0, f1, f2, f3⟩ := KR.out _ B4))
  go_wp2
  exact bodyPost_ret (v := V 0 n0 0 noS) (results_cell_row Tryz.results145 _ _ w.heap.size 24 _ (0, 0) _ rfl (put4 (KH.out _ B4) _ _ _ _) Tryz.underlying24 rfl (by rw [info_v4]; rfl)) rfl ⟨rfl, below4 (btr B0 B4) _ (Nat.le_refl _) _ _ _ _⟩

set_option maxRecDepth 100000 in
set_option maxHeartbeats 2000000 in
theorem y_dec1_MO (w : World) (b o c : Nat) (n0 : Int) (hb : b < w.heap.size) (h1 : ValIn w b o 0 n0 0 noS) (h2 : ValIn w b (o + 4) 1 0 0 noS) :
    Calls Tryz.prog 145 #[.slice (some ⟨b, o, none⟩) 2 c, .bool true] w fun e w' => e = .returned (V 0 n0 0 noS) ∧ Below w.heap.size w w' := by
  have K := Lib.hid (two_ofO hb h1 h2)
  have hr0 := heap_alloc_new w (.cells #[.int .i64 0, .int .i64 0, .int .i64 0, .string ⟨#[]⟩] 24)
  have HR0 := Lib.hid hr0
  clear h1 h2 hr0
  go_enter Tryz.func145, Tryz.ntmps145
  go_wp2_with fail
  generalize HW : w.alloc (.cells #[.int .i64 0, .int .i64 0, .int .i64 0, .string ⟨#[]⟩] 24) = W0 at *
  have B0 : Below w.heap.size w W0 := by rw [← HW]; exact (Below.refl _ _).alloc (Nat.le_refl _) _
  have hz0 : w.heap.size < W0.heap.size := by rw [← HW]; simp
  clear HW
  have KH : Hid (∀ W, Below W0.heap.size W0 W → W.heap[w.heap.size]? = some (.cells #[.int .i64 0, .int .i64 0, .int .i64 0, .string ⟨#[]⟩] 24 (0, 0))) := fun W hW => (hW.block _ hz0).trans HR0.out
  have KR : Hid (∀ W, Below W0.heap.size W0 W → ResAt W w.heap.size) := fun W hW => res_at ((hW.block _ hz0).trans HR0.out)
  have B0d : Below W0.heap.size W0 W0.drew := Below.drew (Below.refl _ _)
  go_region_held3 (fun w' => (w'.cell? ⟨b, o, none⟩ = some (.int .i64 0) ∧ w'.cell? ⟨b, o + 1, none⟩ = some (.int .i64 n0) ∧ w'.cell? ⟨b, o + 2, none⟩ = some (.int .i64 0) ∧ w'.cell? ⟨b, o + 3, none⟩ = some (.string noS)) ∧ (w'.cell? ⟨b, o + 4, none⟩ = some (.int .i64 1) ∧ w'.cell? ⟨b, o + 5, none⟩ = some (.int .i64 0) ∧ w'.cell? ⟨b, o + 6, none⟩ = some (.int .i64 0) ∧ w'.cell? ⟨b, o + 7, none⟩ = some (.string noS)))
    (first | exact K.out _ (btr B0 B2) | exact K.out _ (btr B0 B1) | exact K.out _ (btr B0 B0d) | exact K.out _ B0) (first
      | (go_at_call 82; refine (c_truth1 W0.drew).mono ?_; rintro e w1 ⟨rfl, hb1⟩; have B1 : Below W0.heap.size W0 w1 := btr B0d hb1)
      | (go_at_call 82; refine (c_truth1 w1).mono ?_; rintro e w2 ⟨rfl, hb2⟩; have B2 : Below W0.heap.size W0 w2 := btr B1 hb2))
  go_wp2_with fail
  have B2d : Below W0.heap.size W0 w2.drew := Below.drew B2
  go_region_held3 (fun w' => (w'.cell? ⟨b, o, none⟩ = some (.int .i64 0) ∧ w'.cell? ⟨b, o + 1, none⟩ = some (.int .i64 n0) ∧ w'.cell? ⟨b, o + 2, none⟩ = some (.int .i64 0) ∧ w'.cell? ⟨b, o + 3, none⟩ = some (.string noS)) ∧ (w'.cell? ⟨b, o + 4, none⟩ = some (.int .i64 1) ∧ w'.cell? ⟨b, o + 5, none⟩ = some (.int .i64 0) ∧ w'.cell? ⟨b, o + 6, none⟩ = some (.int .i64 0) ∧ w'.cell? ⟨b, o + 7, none⟩ = some (.string noS)))
    (first | exact K.out _ (((((btr B0 B4).setCell (p := ⟨w.heap.size, 0, none⟩) (Nat.le_refl w.heap.size) _).setCell (p := ⟨w.heap.size, 1, none⟩) (Nat.le_refl w.heap.size) _).setCell (p := ⟨w.heap.size, 2, none⟩) (Nat.le_refl w.heap.size) _).setCell (p := ⟨w.heap.size, 3, none⟩) (Nat.le_refl w.heap.size) _) | exact K.out _ (btr B0 B4) | exact K.out _ (btr B0 B3) | exact K.out _ (btr B0 B2d) | exact K.out _ (btr B0 B2)) (first
      | (go_at_call 55; refine (c_isMissing0 n0 0 noS _).mono ?_; rintro e w3 ⟨rfl, hb3⟩; have B3 : Below W0.heap.size W0 w3 := btr B2d hb3)
      | (go_at_call 148; refine (c_chosen true 0 n0 0 noS 1 0 0 noS _).mono ?_; rintro e w4 ⟨rfl, hb4⟩; have B4 : Below W0.heap.size W0 w4 := btr B3 hb4; obtain ⟨r0, r1, r2, r3, f0, f1, f2, f3⟩ := KR.out _ B4))
  go_wp2
  exact bodyPost_ret (v := V 0 n0 0 noS) (results_cell_row Tryz.results145 _ _ w.heap.size 24 _ (0, 0) _ rfl (put4 (KH.out _ B4) _ _ _ _) Tryz.underlying24 rfl (by rw [info_v4]; rfl)) rfl ⟨rfl, below4 (btr B0 B4) _ (Nat.le_refl _) _ _ _ _⟩

set_option maxRecDepth 100000 in
set_option maxHeartbeats 2000000 in
theorem y_dec1_OT (w : World) (b o c : Nat) (hb : b < w.heap.size) (h1 : ValIn w b o 1 0 0 noS) (h2 : ValIn w b (o + 4) 1 1 0 noS) :
    Calls Tryz.prog 145 #[.slice (some ⟨b, o, none⟩) 2 c, .bool true] w fun e w' => e = .returned (V 1 1 0 noS) ∧ Below w.heap.size w w' := by
  have K := Lib.hid (two_ofO hb h1 h2)
  have hr0 := heap_alloc_new w (.cells #[.int .i64 0, .int .i64 0, .int .i64 0, .string ⟨#[]⟩] 24)
  have HR0 := Lib.hid hr0
  clear h1 h2 hr0
  go_enter Tryz.func145, Tryz.ntmps145
  go_wp2_with fail
  generalize HW : w.alloc (.cells #[.int .i64 0, .int .i64 0, .int .i64 0, .string ⟨#[]⟩] 24) = W0 at *
  have B0 : Below w.heap.size w W0 := by rw [← HW]; exact (Below.refl _ _).alloc (Nat.le_refl _) _
  have hz0 : w.heap.size < W0.heap.size := by rw [← HW]; simp
  clear HW
  have KH : Hid (∀ W, Below W0.heap.size W0 W → W.heap[w.heap.size]? = some (.cells #[.int .i64 0, .int .i64 0, .int .i64 0, .string ⟨#[]⟩] 24 (0, 0))) := fun W hW => (hW.block _ hz0).trans HR0.out
  have KR : Hid (∀ W, Below W0.heap.size W0 W → ResAt W w.heap.size) := fun W hW => res_at ((hW.block _ hz0).trans HR0.out)
  have B0d : Below W0.heap.size W0 W0.drew := Below.drew (Below.refl _ _)
  go_region_held3 (fun w' => (w'.cell? ⟨b, o, none⟩ = some (.int .i64 1) ∧ w'.cell? ⟨b, o + 1, none⟩ = some (.int .i64 0) ∧ w'.cell? ⟨b, o + 2, none⟩ = some (.int .i64 0) ∧ w'.cell? ⟨b, o + 3, none⟩ = some (.string noS)) ∧ (w'.cell? ⟨b, o + 4, none⟩ = some (.int .i64 1) ∧ w'.cell? ⟨b, o + 5, none⟩ = some (.int .i64 1) ∧ w'.cell? ⟨b, o + 6, none⟩ = some (.int .i64 0) ∧ w'.cell? ⟨b, o + 7, none⟩ = some (.string noS)))
    (first | exact K.out _ (btr B0 B2) | exact K.out _ (btr B0 B1) | exact K.out _ (btr B0 B0d) | exact K.out _ B0) (first
      | (go_at_call 82; refine (c_truth1 W0.drew).mono ?_; rintro e w1 ⟨rfl, hb1⟩; have B1 : Below W0.heap.size W0 w1 := btr B0d hb1)
      | (go_at_call 82; refine (c_truth1 w1).mono ?_; rintro e w2 ⟨rfl, hb2⟩; have B2 : Below W0.heap.size W0 w2 := btr B1 hb2))
  go_wp2_with fail
  refine (c_truth1 _).mono ?_
  rintro e w3 ⟨rfl, hb3⟩
  have B3 : Below W0.heap.size W0 w3 := btr B2 hb3
  obtain ⟨r0, r1, r2, r3, f0, f1, f2, f3⟩ := KR.out _ B3
  go_wp2
  exact bodyPost_ret (v := V 1 1 0 noS) (results_cell_row Tryz.results145 _ _ w.heap.size 24 _ (0, 0) _ rfl (put4 (KH.out _ B3) _ _ _ _) Tryz.underlying24 rfl (by rw [info_v4]; rfl)) rfl ⟨rfl, below4 (btr B0 B3) _ (Nat.le_refl _) _ _ _ _⟩

set_option maxRecDepth 100000 in
set_option maxHeartbeats 2000000 in
theorem y_dec1_OM (w : World) (b o c : Nat) (n1 : Int) (hb : b < w.heap.size) (h1 : ValIn w b o 1 0 0 noS) (h2 : ValIn w b (o + 4) 0 n1 0 noS) :
    Calls Tryz.prog 145 #[.slice (some ⟨b, o, none⟩) 2 c, .bool true] w fun e w' => e = .returned (V 0 n1 0 noS) ∧ Below w.heap.size w w' := by
  have K := Lib.hid (two_ofO hb h1 h2)
  have hr0 := heap_alloc_new w (.cells #[.int .i64 0, .int .i64 0, .int .i64 0, .string ⟨#[]⟩] 24)
  have HR0 := Lib.hid hr0
  clear h1 h2 hr0
  go_enter Tryz.func145, Tryz.ntmps145
  go_wp2_with fail
  generalize HW : w.alloc (.cells #[.int .i64 0, .int .i64 0, .int .i64 0, .string ⟨#[]⟩] 24) = W0 at *
  have B0 : Below w.heap.size w W0 := by rw [← HW]; exact (Below.refl _ _).alloc (Nat.le_refl _) _
  have hz0 : w.heap.size < W0.heap.size := by rw [← HW]; simp
  clear HW
  have KH : Hid (∀ W, Below W0.heap.size W0 W → W.heap[w.heap.size]? = some (.cells #[.int .i64 0, .int .i64 0, .int .i64 0, .string ⟨#[]⟩] 24 (0, 0))) := fun W hW => (hW.block _ hz0).trans HR0.out
  have KR : Hid (∀ W, Below W0.heap.size W0 W → ResAt W w.heap.size) := fun W hW => res_at ((hW.block _ hz0).trans HR0.out)
  have B0d : Below W0.heap.size W0 W0.drew := Below.drew (Below.refl _ _)
  go_region_held3 (fun w' => (w'.cell? ⟨b, o, none⟩ = some (.int .i64 1) ∧ w'.cell? ⟨b, o + 1, none⟩ = some (.int .i64 0) ∧ w'.cell? ⟨b, o + 2, none⟩ = some (.int .i64 0) ∧ w'.cell? ⟨b, o + 3, none⟩ = some (.string noS)) ∧ (w'.cell? ⟨b, o + 4, none⟩ = some (.int .i64 0) ∧ w'.cell? ⟨b, o + 5, none⟩ = some (.int .i64 n1) ∧ w'.cell? ⟨b, o + 6, none⟩ = some (.int .i64 0) ∧ w'.cell? ⟨b, o + 7, none⟩ = some (.string noS)))
    (first | exact K.out _ (btr B0 B2) | exact K.out _ (btr B0 B1) | exact K.out _ (btr B0 B0d) | exact K.out _ B0) (first
      | (go_at_call 82; refine (c_truth1 W0.drew).mono ?_; rintro e w1 ⟨rfl, hb1⟩; have B1 : Below W0.heap.size W0 w1 := btr B0d hb1)
      | (go_at_call 82; refine (c_truth1 w1).mono ?_; rintro e w2 ⟨rfl, hb2⟩; have B2 : Below W0.heap.size W0 w2 := btr B1 hb2))
  go_wp2_with fail
  have B2d : Below W0.heap.size W0 w2.drew := Below.drew B2
  go_region_held3 (fun w' => (w'.cell? ⟨b, o, none⟩ = some (.int .i64 1) ∧ w'.cell? ⟨b, o + 1, none⟩ = some (.int .i64 0) ∧ w'.cell? ⟨b, o + 2, none⟩ = some (.int .i64 0) ∧ w'.cell? ⟨b, o + 3, none⟩ = some (.string noS)) ∧ (w'.cell? ⟨b, o + 4, none⟩ = some (.int .i64 0) ∧ w'.cell? ⟨b, o + 5, none⟩ = some (.int .i64 n1) ∧ w'.cell? ⟨b, o + 6, none⟩ = some (.int .i64 0) ∧ w'.cell? ⟨b, o + 7, none⟩ = some (.string noS)))
    (first | exact K.out _ (((((btr B0 B4).setCell (p := ⟨w.heap.size, 0, none⟩) (Nat.le_refl w.heap.size) _).setCell (p := ⟨w.heap.size, 1, none⟩) (Nat.le_refl w.heap.size) _).setCell (p := ⟨w.heap.size, 2, none⟩) (Nat.le_refl w.heap.size) _).setCell (p := ⟨w.heap.size, 3, none⟩) (Nat.le_refl w.heap.size) _) | exact K.out _ (btr B0 B4) | exact K.out _ (btr B0 B3) | exact K.out _ (btr B0 B2d) | exact K.out _ (btr B0 B2)) (first
      | (go_at_call 55; refine (c_isMissing1 0 0 noS _).mono ?_; rintro e w3 ⟨rfl, hb3⟩; have B3 : Below W0.heap.size W0 w3 := btr B2d hb3)
      | (go_at_call 148; refine (c_chosen false 1 0 0 noS 0 n1 0 noS _).mono ?_; rintro e w4 ⟨rfl, hb4⟩; have B4 : Below W0.heap.size W0 w4 := btr B3 hb4; obtain ⟨r0, r1, r2, r3, f0, f1, f2, f3⟩ := KR.out _ B4))
  go_wp2
  exact bodyPost_ret (v := V 0 n1 0 noS) (results_cell_row Tryz.results145 _ _ w.heap.size 24 _ (0, 0) _ rfl (put4 (KH.out _ B4) _ _ _ _) Tryz.underlying24 rfl (by rw [info_v4]; rfl)) rfl ⟨rfl, below4 (btr B0 B4) _ (Nat.le_refl _) _ _ _ _⟩

set_option maxRecDepth 100000 in
set_option maxHeartbeats 2000000 in
theorem y_dec1_OO (w : World) (b o c : Nat) (hb : b < w.heap.size) (h1 : ValIn w b o 1 0 0 noS) (h2 : ValIn w b (o + 4) 1 0 0 noS) :
    Calls Tryz.prog 145 #[.slice (some ⟨b, o, none⟩) 2 c, .bool true] w fun e w' => e = .returned (V 1 0 0 noS) ∧ Below w.heap.size w w' := by
  have K := Lib.hid (two_ofO hb h1 h2)
  have hr0 := heap_alloc_new w (.cells #[.int .i64 0, .int .i64 0, .int .i64 0, .string ⟨#[]⟩] 24)
  have HR0 := Lib.hid hr0
  clear h1 h2 hr0
  go_enter Tryz.func145, Tryz.ntmps145
  go_wp2_with fail
  generalize HW : w.alloc (.cells #[.int .i64 0, .int .i64 0, .int .i64 0, .string ⟨#[]⟩] 24) = W0 at *
  have B0 : Below w.heap.size w W0 := by rw [← HW]; exact (Below.refl _ _).alloc (Nat.le_refl _) _
  have hz0 : w.heap.size < W0.heap.size := by rw [← HW]; simp
  clear HW
  have KH : Hid (∀ W, Below W0.heap.size W0 W → W.heap[w.heap.size]? = some (.cells #[.int .i64 0, .int .i64 0, .int .i64 0, .string ⟨#[]⟩] 24 (0, 0))) := fun W hW => (hW.block _ hz0).trans HR0.out
  have KR : Hid (∀ W, Below W0.heap.size W0 W → ResAt W w.heap.size) := fun W hW => res_at ((hW.block _ hz0).trans HR0.out)
  have B0d : Below W0.heap.size W0 W0.drew := Below.drew (Below.refl _ _)
  go_region_held3 (fun w' => (w'.cell? ⟨b, o, none⟩ = some (.int .i64 1) ∧ w'.cell? ⟨b, o + 1, none⟩ = some (.int .i64 0) ∧ w'.cell? ⟨b, o + 2, none⟩ = some (.int .i64 0) ∧ w'.cell? ⟨b, o + 3, none⟩ = some (.string noS)) ∧ (w'.cell? ⟨b, o + 4, none⟩ = some (.int .i64 1) ∧ w'.cell? ⟨b, o + 5, none⟩ = some (.int .i64 0) ∧ w'.cell? ⟨b, o + 6, none⟩ = some (.int .i64 0) ∧ w'.cell? ⟨b, o + 7, none⟩ = some (.string noS)))
    (first | exact K.out _ (btr B0 B2) | exact K.out _ (btr B0 B1) | exact K.out _ (btr B0 B0d) | exact K.out _ B0) (first
      | (go_at_call 82; refine (c_truth1 W0.drew).mono ?_; rintro e w1 ⟨rfl, hb1⟩; have B1 : Below W0.heap.size W0 w1 := btr B0d hb1)
      | (go_at_call 82; refine (c_truth1 w1).mono ?_; rintro e w2 ⟨rfl, hb2⟩; have B2 : Below W0.heap.size W0 w2 := btr B1 hb2))
  go_wp2_with fail
  have B2d : Below W0.heap.size W0 w2.drew := Below.drew B2
  go_region_held3 (fun w' => (w'.cell? ⟨b, o, none⟩ = some (.int .i64 1) ∧ w'.cell? ⟨b, o + 1, none⟩ = some (.int .i64 0) ∧ w'.cell? ⟨b, o + 2, none⟩ = some (.int .i64 0) ∧ w'.cell? ⟨b, o + 3, none⟩ = some (.string noS)) ∧ (w'.cell? ⟨b, o + 4, none⟩ = some (.int .i64 1) ∧ w'.cell? ⟨b, o + 5, none⟩ = some (.int .i64 0) ∧ w'.cell? ⟨b, o + 6, none⟩ = some (.int .i64 0) ∧ w'.cell? ⟨b, o + 7, none⟩ = some (.string noS)))
    (first | exact K.out _ (((((btr B0 B4).setCell (p := ⟨w.heap.size, 0, none⟩) (Nat.le_refl w.heap.size) _).setCell (p := ⟨w.heap.size, 1, none⟩) (Nat.le_refl w.heap.size) _).setCell (p := ⟨w.heap.size, 2, none⟩) (Nat.le_refl w.heap.size) _).setCell (p := ⟨w.heap.size, 3, none⟩) (Nat.le_refl w.heap.size) _) | exact K.out _ (btr B0 B4) | exact K.out _ (btr B0 B3) | exact K.out _ (btr B0 B2d) | exact K.out _ (btr B0 B2)) (first
      | (go_at_call 55; refine (c_isMissing1 0 0 noS _).mono ?_; rintro e w3 ⟨rfl, hb3⟩; have B3 : Below W0.heap.size W0 w3 := btr B2d hb3)
      | (go_at_call 148; refine (c_chosen false 1 0 0 noS 1 0 0 noS _).mono ?_; rintro e w4 ⟨rfl, hb4⟩; have B4 : Below W0.heap.size W0 w4 := btr B3 hb4; obtain ⟨r0, r1, r2, r3, f0, f1, f2, f3⟩ := KR.out _ B4))
  go_wp2
  exact bodyPost_ret (v := V 1 0 0 noS) (results_cell_row Tryz.results145 _ _ w.heap.size 24 _ (0, 0) _ rfl (put4 (KH.out _ B4) _ _ _ _) Tryz.underlying24 rfl (by rw [info_v4]; rfl)) rfl ⟨rfl, below4 (btr B0 B4) _ (Nat.le_refl _) _ _ _ _⟩
set_option maxRecDepth 100000 in
set_option maxHeartbeats 2000000 in
theorem y_and (w : World) (b o c : Nat) (k n d : Int) (s : ByteArray) (HD : ∀ W, Below w.heap.size w W → Calls Tryz.prog 145 #[.slice (some ⟨b, o, none⟩) 2 c, .bool false] W fun e w' => e = .returned (V k n d s) ∧ Below W.heap.size W w') :
    Calls Tryz.prog 144 #[.slice (some ⟨b, o, none⟩) 2 c] w fun e w' => e = .returned (V k n d s) ∧ Below w.heap.size w w' := by
  have HDh := Lib.hid HD
  have HR0 := Lib.hid (heap_alloc_new w (.cells #[.int .i64 0, .int .i64 0, .int .i64 0, .string ⟨#[]⟩] 24))
  clear HD
  go_enter Tryz.func144, Tryz.ntmps144
  go_wp2_with fail
  generalize HW : w.alloc (.cells #[.int .i64 0, .int .i64 0, .int .i64 0, .string ⟨#[]⟩] 24) = W0 at *
  have B0 : Below w.heap.size w W0 := by rw [← HW]; exact (Below.refl _ _).alloc (Nat.le_refl _) _
  have hz0 : w.heap.size < W0.heap.size := by rw [← HW]; simp
  clear HW
  refine (HDh.out _ B0).mono ?_
  rintro e w1 ⟨rfl, hb1⟩
  have hh1 := (hb1.block _ hz0).trans HR0.out
  obtain ⟨r0, r1, r2, r3, f0, f1, f2, f3⟩ := res_at hh1
  have HH1 := Lib.hid hh1
  clear hh1 HDh
  go_wp2
  exact bodyPost_ret (v := V k n d s) (results_cell_row Tryz.results144 _ _ w.heap.size 24 _ (0, 0) _ rfl (put4 HH1.out _ _ _ _) Tryz.underlying24 rfl (by rw [info_v4]; rfl)) rfl ⟨rfl, below4 (btr B0 hb1) _ (Nat.le_refl _) _ _ _ _⟩
set_option maxRecDepth 100000 in
set_option maxHeartbeats 2000000 in
theorem y_or (w : World) (b o c : Nat) (k n d : Int) (s : ByteArray) (HD : ∀ W, Below w.heap.size w W → Calls Tryz.prog 145 #[.slice (some ⟨b, o, none⟩) 2 c, .bool true] W fun e w' => e = .returned (V k n d s) ∧ Below W.heap.size W w') :
    Calls Tryz.prog 146 #[.slice (some ⟨b, o, none⟩) 2 c] w fun e w' => e = .returned (V k n d s) ∧ Below w.heap.size w w' := by
  have HDh := Lib.hid HD
  have HR0 := Lib.hid (heap_alloc_new w (.cells #[.int .i64 0, .int .i64 0, .int .i64 0, .string ⟨#[]⟩] 24))
  clear HD
  go_enter Tryz.func146, Tryz.ntmps146
  go_wp2_with fail
  generalize HW : w.alloc (.cells #[.int .i64 0, .int .i64 0, .int .i64 0, .string ⟨#[]⟩] 24) = W0 at *
  have B0 : Below w.heap.size w W0 := by rw [← HW]; exact (Below.refl _ _).alloc (Nat.le_refl _) _
  have hz0 : w.heap.size < W0.heap.size := by rw [← HW]; simp
  clear HW
  refine (HDh.out _ B0).mono ?_
  rintro e w1 ⟨rfl, hb1⟩
  have hh1 := (hb1.block _ hz0).trans HR0.out
  obtain ⟨r0, r1, r2, r3, f0, f1, f2, f3⟩ := res_at hh1
  have HH1 := Lib.hid hh1
  clear hh1 HDh
  go_wp2
  exact bodyPost_ret (v := V k n d s) (results_cell_row Tryz.results146 _ _ w.heap.size 24 _ (0, 0) _ rfl (put4 HH1.out _ _ _ _) Tryz.underlying24 rfl (by rw [info_v4]; rfl)) rfl ⟨rfl, below4 (btr B0 hb1) _ (Nat.le_refl _) _ _ _ _⟩

end Go.Proofs.YthppcklegdnjdaaGreatDoor
end

/- Do, operation by operation: values that fit the types have a result that fits the result's type. -/
section
namespace Go.Proofs.YthppcklegdnjdaaGreatDoor
open Go Go.RowKit Go.Deep Go.Shelf

theorem den_one {k d n : Int} (h : fitB k d 2 = true) (hk : k ≠ 0) (l : Low n d) : (qV n d).den = 1 := by
  rcases fit_int h with h | ⟨_, h⟩
  · exact absurd h hk
  · rw [qV_den l, h]; rfl

set_option maxRecDepth 100000 in
set_option maxHeartbeats 1000000 in
theorem t_op4 (w : World) (A : Option Addr) (cap : Nat) (kk nn dd ts : Nat → Int) (ss : Nat → ByteArray) (sh : Int) (hv : Vals w A 1 kk nn dd ss) (ha : allTy 1 ts) (hg : ∀ k, k < 1 → Good (kk k) (nn k) (dd k) (ss k))
    (hf : ∀ k, k < 1 → fitB (kk k) (dd k) (ts k) = true) (hT : foldT (rowN 4) ts 1 = some sh) : Res w 4 A 1 cap 1 := by
  rw [show rowN 4 = n3 2 0 0 from rfl] at hT
  have t0 := L_bool1 ha hT
  have k0 := fit_bool (t0 ▸ hf 0 (by omega))
  refine res_of w 4 A 1 cap 1 2 0 0 1 false 127 kk nn dd ss (by omega) hv (fun W => f_op4 W) hg (S_bool1 k0) (enters_of Tryz.func127 (by kernel_rfl) rfl) 1 ?_
  intro hno
  have hne := hno.resolve_left (by decide)
  have e0 : kk 0 = 1 := k0.resolve_left (hne 0 (by omega))
  obtain ⟨b, o, rfl, hb, hc⟩ := hv (by omega)
  have h0 : ValIn w b o 1 (nn 0) (dd 0) (ss 0) := by
    have h9 := hc 0 (by omega)
    rw [e0] at h9
    exact h9
  exact ⟨_, _, _, _, .truth (nn 0 == 0), rfl, fun W hW => g_not W b o cap _ _ _ (Nat.lt_of_lt_of_le hb hW.size) (h0.below hW hb)⟩

set_option maxRecDepth 100000 in
set_option maxHeartbeats 1000000 in
theorem t_op5 (w : World) (A : Option Addr) (cap : Nat) (kk nn dd ts : Nat → Int) (ss : Nat → ByteArray) (sh : Int) (hv : Vals w A 1 kk nn dd ss) (ha : allTy 1 ts) (hg : ∀ k, k < 1 → Good (kk k) (nn k) (dd k) (ss k))
    (hf : ∀ k, k < 1 → fitB (kk k) (dd k) (ts k) = true) (hT : foldT (rowN 5) ts 1 = some sh) : Res w 5 A 1 cap sh := by
  rw [show rowN 5 = n3 3 0 0 from rfl] at hT
  obtain ⟨n0, hsh⟩ := L_num1 ha hT
  have k0 := fit_num n0 (hf 0 (by omega))
  refine res_of w 5 A 1 cap 1 3 0 0 0 false 128 kk nn dd ss (by omega) hv (fun W => f_op5 W) hg (S_num1 k0) (enters_of Tryz.func128 (by kernel_rfl) rfl) sh ?_
  intro hno
  have hne := hno.resolve_left (by decide)
  have e0 : kk 0 = 2 := k0.resolve_left (hne 0 (by omega))
  obtain ⟨s0, l0⟩ := good_num (hg 0 (by omega)) e0
  have hd : sh = 3 ∨ (sh = 2 ∧ (0 - qV (nn 0) (dd 0)).den = 1) := by
    have : ts 0 = 2 ∨ ts 0 = 3 := by simpa [isNum] using n0
    rcases this with h | h
    · exact .inr ⟨hsh.trans h, den_sub rfl (den_one (h ▸ hf 0 (by omega)) (hne 0 (by omega)) l0)⟩
    · exact .inl (hsh.trans h)
  obtain ⟨b, o, rfl, hb, hc⟩ := hv (by omega)
  have h0 : ValIn w b o 2 (nn 0) (dd 0) noS := by
    have h9 := hc 0 (by omega)
    rw [e0, s0] at h9
    exact h9
  exact ⟨_, _, _, _, val_good _, fit_val hd, fun W hW => g_neg W b o cap _ _ (Nat.lt_of_lt_of_le hb hW.size) (h0.below hW hb) l0⟩

set_option maxRecDepth 100000 in
set_option maxHeartbeats 1000000 in
theorem t_op6 (w : World) (A : Option Addr) (cap : Nat) (kk nn dd ts : Nat → Int) (ss : Nat → ByteArray) (sh : Int) (hv : Vals w A 1 kk nn dd ss) (ha : allTy 1 ts) (hg : ∀ k, k < 1 → Good (kk k) (nn k) (dd k) (ss k))
    (hf : ∀ k, k < 1 → fitB (kk k) (dd k) (ts k) = true) (hT : foldT (rowN 6) ts 1 = some sh) : Res w 6 A 1 cap 2 := by
  rw [show rowN 6 = n3 3 0 0 from rfl] at hT
  obtain ⟨n0, hsh⟩ := L_num1 ha hT
  have k0 := fit_num n0 (hf 0 (by omega))
  refine res_of w 6 A 1 cap 1 3 0 0 2 false 131 kk nn dd ss (by omega) hv (fun W => f_op6 W) hg (S_num1 k0) (enters_of Tryz.func131 (by kernel_rfl) rfl) 2 ?_
  intro hno
  have hne := hno.resolve_left (by decide)
  have e0 : kk 0 = 2 := k0.resolve_left (hne 0 (by omega))
  obtain ⟨s0, l0⟩ := good_num (hg 0 (by omega)) e0
  obtain ⟨b, o, rfl, hb, hc⟩ := hv (by omega)
  have h0 : ValIn w b o 2 (nn 0) (dd 0) noS := by
    have h9 := hc 0 (by omega)
    rw [e0, s0] at h9
    exact h9
  exact ⟨_, _, _, _, val_good _, fit_val (.inr ⟨rfl, Rat.den_intCast _⟩), fun W hW => g_floor W b o cap _ _ (Nat.lt_of_lt_of_le hb hW.size) (h0.below hW hb) l0⟩

set_option maxRecDepth 100000 in
set_option maxHeartbeats 1000000 in
theorem t_op7 (w : World) (A : Option Addr) (cap : Nat) (kk nn dd ts : Nat → Int) (ss : Nat → ByteArray) (sh : Int) (hv : Vals w A 1 kk nn dd ss) (ha : allTy 1 ts) (hg : ∀ k, k < 1 → Good (kk k) (nn k) (dd k) (ss k))
    (hf : ∀ k, k < 1 → fitB (kk k) (dd k) (ts k) = true) (hT : foldT (rowN 7) ts 1 = some sh) : Res w 7 A 1 cap 1 := by
  rw [show rowN 7 = n3 1 0 0 from rfl] at hT
  refine res_of w 7 A 1 cap 1 1 0 0 1 true 132 kk nn dd ss (by omega) hv (fun W => f_op7 W) hg (S_any1 kk) (enters_of Tryz.func132 (by kernel_rfl) rfl) 1 ?_
  intro hno
  have _u := And.intro ha (And.intro hf (And.intro hT hno))
  obtain ⟨b, o, rfl, hb, hc⟩ := hv (by omega)
  have h0 : ValIn w b o (kk 0) (nn 0) (dd 0) (ss 0) := by
    have h9 := hc 0 (by omega)
    exact h9
  exact ⟨_, _, _, _, .truth (kk 0 == 0), rfl, fun W hW => g_missing W b o cap _ _ _ _ (Nat.lt_of_lt_of_le hb hW.size) (h0.below hW hb)⟩

set_option maxRecDepth 100000 in
set_option maxHeartbeats 1000000 in
theorem t_op8 (w : World) (A : Option Addr) (cap : Nat) (kk nn dd ts : Nat → Int) (ss : Nat → ByteArray) (sh : Int) (hv : Vals w A 1 kk nn dd ss) (ha : allTy 1 ts) (hg : ∀ k, k < 1 → Good (kk k) (nn k) (dd k) (ss k))
    (hf : ∀ k, k < 1 → fitB (kk k) (dd k) (ts k) = true) (hT : foldT (rowN 8) ts 1 = some sh) : Res w 8 A 1 cap 2 := by
  rw [show rowN 8 = n3 1 0 0 from rfl] at hT
  refine res_of w 8 A 1 cap 1 1 0 0 2 true 133 kk nn dd ss (by omega) hv (fun W => f_op8 W) hg (S_any1 kk) (enters_of Tryz.func133 (by kernel_rfl) rfl) 2 ?_
  intro hno
  have _u := And.intro ha (And.intro hf (And.intro hT hno))
  obtain ⟨b, o, rfl, hb, hc⟩ := hv (by omega)
  have h0 : ValIn w b o (kk 0) (nn 0) (dd 0) (ss 0) := by
    have h9 := hc 0 (by omega)
    exact h9
  have hl : Low (if kk 0 = 0 then nn 0 else 0) 1 := by
    by_cases h : kk 0 = 0
    · rw [if_pos h]
      obtain ⟨_, _, h1, h2⟩ := good_miss (hg 0 (by omega)) h
      exact low1 _ (by omega) (by omega)
    · rw [if_neg h]; exact low01
  exact ⟨_, _, _, _, .num _ _ hl, rfl, fun W hW => g_reason W b o cap _ _ _ _ (Nat.lt_of_lt_of_le hb hW.size) (h0.below hW hb)⟩

set_option maxRecDepth 100000 in
set_option maxHeartbeats 1000000 in
theorem t_op9 (w : World) (A : Option Addr) (cap : Nat) (kk nn dd ts : Nat → Int) (ss : Nat → ByteArray) (sh : Int) (hv : Vals w A 2 kk nn dd ss) (ha : allTy 2 ts) (hg : ∀ k, k < 2 → Good (kk k) (nn k) (dd k) (ss k))
    (hf : ∀ k, k < 2 → fitB (kk k) (dd k) (ts k) = true) (hT : foldT (rowN 9) ts 2 = some sh) : Res w 9 A 2 cap sh := by
  rw [show rowN 9 = n3 3 3 0 from rfl] at hT
  obtain ⟨n0, n1, hsh⟩ := L_num2 ha hT
  have k0 := fit_num n0 (hf 0 (by omega))
  have k1 := fit_num n1 (hf 1 (by omega))
  refine res_of w 9 A 2 cap 2 3 3 0 0 false 134 kk nn dd ss (by omega) hv (fun W => f_op9 W) hg (S_num2 k0 k1) (enters_of Tryz.func134 (by kernel_rfl) rfl) sh ?_
  intro hno
  have hne := hno.resolve_left (by decide)
  have e0 : kk 0 = 2 := k0.resolve_left (hne 0 (by omega))
  have e1 : kk 1 = 2 := k1.resolve_left (hne 1 (by omega))
  obtain ⟨s0, l0⟩ := good_num (hg 0 (by omega)) e0
  obtain ⟨s1, l1⟩ := good_num (hg 1 (by omega)) e1
  have hd : sh = 3 ∨ (sh = 2 ∧ (qV (nn 0) (dd 0) + qV (nn 1) (dd 1)).den = 1) := by
    rcases hsh with h | ⟨h, t0, t1⟩
    · exact .inl h
    · exact .inr ⟨h, den_add (den_one (t0 ▸ hf 0 (by omega)) (hne 0 (by omega)) l0) (den_one (t1 ▸ hf 1 (by omega)) (hne 1 (by omega)) l1)⟩
  obtain ⟨b, o, rfl, hb, hc⟩ := hv (by omega)
  have h0 : ValIn w b o 2 (nn 0) (dd 0) noS := by
    have h9 := hc 0 (by omega)
    rw [e0, s0] at h9
    exact h9
  have h1 : ValIn w b (o + 4) 2 (nn 1) (dd 1) noS := by
    have h9 := hc 1 (by omega)
    rw [e1, s1] at h9
    exact h9
  exact ⟨_, _, _, _, val_good _, fit_val hd, fun W hW => g_add W b o cap _ _ _ _ (Nat.lt_of_lt_of_le hb hW.size) (h0.below hW hb) (h1.below hW hb) l0 l1⟩

set_option maxRecDepth 100000 in
set_option maxHeartbeats 1000000 in
theorem t_op10 (w : World) (A : Option Addr) (cap : Nat) (kk nn dd ts : Nat → Int) (ss : Nat → ByteArray) (sh : Int) (hv : Vals w A 2 kk nn dd ss) (ha : allTy 2 ts) (hg : ∀ k, k < 2 → Good (kk k) (nn k) (dd k) (ss k))
    (hf : ∀ k, k < 2 → fitB (kk k) (dd k) (ts k) = true) (hT : foldT (rowN 10) ts 2 = some sh) : Res w 10 A 2 cap sh := by
  rw [show rowN 10 = n3 3 3 0 from rfl] at hT
  obtain ⟨n0, n1, hsh⟩ := L_num2 ha hT
  have k0 := fit_num n0 (hf 0 (by omega))
  have k1 := fit_num n1 (hf 1 (by omega))
  refine res_of w 10 A 2 cap 2 3 3 0 0 false 135 kk nn dd ss (by omega) hv (fun W => f_op10 W) hg (S_num2 k0 k1) (enters_of Tryz.func135 (by kernel_rfl) rfl) sh ?_
  intro hno
  have hne := hno.resolve_left (by decide)
  have e0 : kk 0 = 2 := k0.resolve_left (hne 0 (by omega))
  have e1 : kk 1 = 2 := k1.resolve_left (hne 1 (by omega))
  obtain ⟨s0, l0⟩ := good_num (hg 0 (by omega)) e0
  obtain ⟨s1, l1⟩ := good_num (hg 1 (by omega)) e1
  have hd : sh = 3 ∨ (sh = 2 ∧ (qV (nn 0) (dd 0) - qV (nn 1) (dd 1)).den = 1) := by
    rcases hsh with h | ⟨h, t0, t1⟩
    · exact .inl h
    · exact .inr ⟨h, den_sub (den_one (t0 ▸ hf 0 (by omega)) (hne 0 (by omega)) l0) (den_one (t1 ▸ hf 1 (by omega)) (hne 1 (by omega)) l1)⟩
  obtain ⟨b, o, rfl, hb, hc⟩ := hv (by omega)
  have h0 : ValIn w b o 2 (nn 0) (dd 0) noS := by
    have h9 := hc 0 (by omega)
    rw [e0, s0] at h9
    exact h9
  have h1 : ValIn w b (o + 4) 2 (nn 1) (dd 1) noS := by
    have h9 := hc 1 (by omega)
    rw [e1, s1] at h9
    exact h9
  exact ⟨_, _, _, _, val_good _, fit_val hd, fun W hW => g_sub W b o cap _ _ _ _ (Nat.lt_of_lt_of_le hb hW.size) (h0.below hW hb) (h1.below hW hb) l0 l1⟩

set_option maxRecDepth 100000 in
set_option maxHeartbeats 1000000 in
theorem t_op11 (w : World) (A : Option Addr) (cap : Nat) (kk nn dd ts : Nat → Int) (ss : Nat → ByteArray) (sh : Int) (hv : Vals w A 2 kk nn dd ss) (ha : allTy 2 ts) (hg : ∀ k, k < 2 → Good (kk k) (nn k) (dd k) (ss k))
    (hf : ∀ k, k < 2 → fitB (kk k) (dd k) (ts k) = true) (hT : foldT (rowN 11) ts 2 = some sh) : Res w 11 A 2 cap sh := by
  rw [show rowN 11 = n3 3 3 0 from rfl] at hT
  obtain ⟨n0, n1, hsh⟩ := L_num2 ha hT
  have k0 := fit_num n0 (hf 0 (by omega))
  have k1 := fit_num n1 (hf 1 (by omega))
  refine res_of w 11 A 2 cap 2 3 3 0 0 false 136 kk nn dd ss (by omega) hv (fun W => f_op11 W) hg (S_num2 k0 k1) (enters_of Tryz.func136 (by kernel_rfl) rfl) sh ?_
  intro hno
  have hne := hno.resolve_left (by decide)
  have e0 : kk 0 = 2 := k0.resolve_left (hne 0 (by omega))
  have e1 : kk 1 = 2 := k1.resolve_left (hne 1 (by omega))
  obtain ⟨s0, l0⟩ := good_num (hg 0 (by omega)) e0
  obtain ⟨s1, l1⟩ := good_num (hg 1 (by omega)) e1
  have hd : sh = 3 ∨ (sh = 2 ∧ (qV (nn 0) (dd 0) * qV (nn 1) (dd 1)).den = 1) := by
    rcases hsh with h | ⟨h, t0, t1⟩
    · exact .inl h
    · exact .inr ⟨h, den_mul (den_one (t0 ▸ hf 0 (by omega)) (hne 0 (by omega)) l0) (den_one (t1 ▸ hf 1 (by omega)) (hne 1 (by omega)) l1)⟩
  obtain ⟨b, o, rfl, hb, hc⟩ := hv (by omega)
  have h0 : ValIn w b o 2 (nn 0) (dd 0) noS := by
    have h9 := hc 0 (by omega)
    rw [e0, s0] at h9
    exact h9
  have h1 : ValIn w b (o + 4) 2 (nn 1) (dd 1) noS := by
    have h9 := hc 1 (by omega)
    rw [e1, s1] at h9
    exact h9
  exact ⟨_, _, _, _, val_good _, fit_val hd, fun W hW => g_mul W b o cap _ _ _ _ (Nat.lt_of_lt_of_le hb hW.size) (h0.below hW hb) (h1.below hW hb) l0 l1⟩

set_option maxRecDepth 100000 in
set_option maxHeartbeats 1000000 in
theorem t_op12 (w : World) (A : Option Addr) (cap : Nat) (kk nn dd ts : Nat → Int) (ss : Nat → ByteArray) (sh : Int) (hv : Vals w A 2 kk nn dd ss) (ha : allTy 2 ts) (hg : ∀ k, k < 2 → Good (kk k) (nn k) (dd k) (ss k))
    (hf : ∀ k, k < 2 → fitB (kk k) (dd k) (ts k) = true) (hT : foldT (rowN 12) ts 2 = some sh) : Res w 12 A 2 cap 3 := by
  rw [show rowN 12 = n3 3 3 0 from rfl] at hT
  obtain ⟨n0, n1, hsh⟩ := L_num2 ha hT
  have k0 := fit_num n0 (hf 0 (by omega))
  have k1 := fit_num n1 (hf 1 (by omega))
  refine res_of w 12 A 2 cap 2 3 3 0 3 false 137 kk nn dd ss (by omega) hv (fun W => f_op12 W) hg (S_num2 k0 k1) (enters_of Tryz.func137 (by kernel_rfl) rfl) 3 ?_
  intro hno
  have hne := hno.resolve_left (by decide)
  have e0 : kk 0 = 2 := k0.resolve_left (hne 0 (by omega))
  have e1 : kk 1 = 2 := k1.resolve_left (hne 1 (by omega))
  obtain ⟨s0, l0⟩ := good_num (hg 0 (by omega)) e0
  obtain ⟨s1, l1⟩ := good_num (hg 1 (by omega)) e1
  obtain ⟨b, o, rfl, hb, hc⟩ := hv (by omega)
  have h0 : ValIn w b o 2 (nn 0) (dd 0) noS := by
    have h9 := hc 0 (by omega)
    rw [e0, s0] at h9
    exact h9
  have h1 : ValIn w b (o + 4) 2 (nn 1) (dd 1) noS := by
    have h9 := hc 1 (by omega)
    rw [e1, s1] at h9
    exact h9
  by_cases hq : qV (nn 1) (dd 1) = 0
  · exact ⟨_, _, _, _, .missing 3 (by omega) (by omega), rfl, fun W hW => g_quo0 W b o cap _ _ _ _ (Nat.lt_of_lt_of_le hb hW.size) (h0.below hW hb) (h1.below hW hb) l0 l1 hq⟩
  · exact ⟨_, _, _, _, val_good _, fit_val (.inl rfl), fun W hW => g_quo W b o cap _ _ _ _ (Nat.lt_of_lt_of_le hb hW.size) (h0.below hW hb) (h1.below hW hb) l0 l1 hq⟩

set_option maxRecDepth 100000 in
set_option maxHeartbeats 1000000 in
theorem t_op13 (w : World) (A : Option Addr) (cap : Nat) (kk nn dd ts : Nat → Int) (ss : Nat → ByteArray) (sh : Int) (hv : Vals w A 2 kk nn dd ss) (ha : allTy 2 ts) (hg : ∀ k, k < 2 → Good (kk k) (nn k) (dd k) (ss k))
    (hf : ∀ k, k < 2 → fitB (kk k) (dd k) (ts k) = true) (hT : foldT (rowN 13) ts 2 = some sh) : Res w 13 A 2 cap 1 := by
  rw [show rowN 13 = n3 4 4 0 from rfl] at hT
  obtain ⟨hK, i0, i1⟩ := L_alike2 ha hT
  have k0 := fit_kind (ha 0 (by omega)) (hf 0 (by omega))
  have k1 := fit_kind (ha 1 (by omega)) (hf 1 (by omega))
  rw [← hK] at k1
  refine res_of w 13 A 2 cap 2 4 4 0 1 false 138 kk nn dd ss (by omega) hv (fun W => f_op13 W) hg (S_alike2 (kindOf_pos _) k0 k1) (enters_of Tryz.func138 (by kernel_rfl) rfl) 1 ?_
  intro hno
  obtain ⟨b, o, rfl, hb, hc⟩ := hv (by omega)
  have h0 : ValIn w b o (kk 0) (nn 0) (dd 0) (ss 0) := by
    have h9 := hc 0 (by omega)
    exact h9
  have h1 : ValIn w b (o + 4) (kk 1) (nn 1) (dd 1) (ss 1) := by
    have h9 := hc 1 (by omega)
    exact h9
  obtain ⟨t, ht⟩ := g_eq w b o cap _ _ _ _ _ _ _ _ hb h0 h1
  exact ⟨_, _, _, _, .truth t, rfl, ht⟩

set_option maxRecDepth 100000 in
set_option maxHeartbeats 1000000 in
theorem t_op14 (w : World) (A : Option Addr) (cap : Nat) (kk nn dd ts : Nat → Int) (ss : Nat → ByteArray) (sh : Int) (hv : Vals w A 2 kk nn dd ss) (ha : allTy 2 ts) (hg : ∀ k, k < 2 → Good (kk k) (nn k) (dd k) (ss k))
    (hf : ∀ k, k < 2 → fitB (kk k) (dd k) (ts k) = true) (hT : foldT (rowN 14) ts 2 = some sh) : Res w 14 A 2 cap 1 := by
  rw [show rowN 14 = n3 4 4 0 from rfl] at hT
  obtain ⟨hK, i0, i1⟩ := L_alike2 ha hT
  have k0 := fit_kind (ha 0 (by omega)) (hf 0 (by omega))
  have k1 := fit_kind (ha 1 (by omega)) (hf 1 (by omega))
  rw [← hK] at k1
  refine res_of w 14 A 2 cap 2 4 4 0 1 false 139 kk nn dd ss (by omega) hv (fun W => f_op14 W) hg (S_alike2 (kindOf_pos _) k0 k1) (enters_of Tryz.func139 (by kernel_rfl) rfl) 1 ?_
  intro hno
  obtain ⟨b, o, rfl, hb, hc⟩ := hv (by omega)
  have h0 : ValIn w b o (kk 0) (nn 0) (dd 0) (ss 0) := by
    have h9 := hc 0 (by omega)
    exact h9
  have h1 : ValIn w b (o + 4) (kk 1) (nn 1) (dd 1) (ss 1) := by
    have h9 := hc 1 (by omega)
    exact h9
  obtain ⟨t, ht⟩ := g_ne w b o cap _ _ _ _ _ _ _ _ hb h0 h1
  exact ⟨_, _, _, _, .truth t, rfl, ht⟩

set_option maxRecDepth 100000 in
set_option maxHeartbeats 1000000 in
theorem t_op15 (w : World) (A : Option Addr) (cap : Nat) (kk nn dd ts : Nat → Int) (ss : Nat → ByteArray) (sh : Int) (hv : Vals w A 2 kk nn dd ss) (ha : allTy 2 ts) (hg : ∀ k, k < 2 → Good (kk k) (nn k) (dd k) (ss k))
    (hf : ∀ k, k < 2 → fitB (kk k) (dd k) (ts k) = true) (hT : foldT (rowN 15) ts 2 = some sh) : Res w 15 A 2 cap 1 := by
  rw [show rowN 15 = n3 4 4 0 from rfl] at hT
  obtain ⟨hK, i0, i1⟩ := L_alike2 ha hT
  have k0 := fit_kind (ha 0 (by omega)) (hf 0 (by omega))
  have k1 := fit_kind (ha 1 (by omega)) (hf 1 (by omega))
  rw [← hK] at k1
  refine res_of w 15 A 2 cap 2 4 4 0 1 false 140 kk nn dd ss (by omega) hv (fun W => f_op15 W) hg (S_alike2 (kindOf_pos _) k0 k1) (enters_of Tryz.func140 (by kernel_rfl) rfl) 1 ?_
  intro hno
  obtain ⟨b, o, rfl, hb, hc⟩ := hv (by omega)
  have h0 : ValIn w b o (kk 0) (nn 0) (dd 0) (ss 0) := by
    have h9 := hc 0 (by omega)
    exact h9
  have h1 : ValIn w b (o + 4) (kk 1) (nn 1) (dd 1) (ss 1) := by
    have h9 := hc 1 (by omega)
    exact h9
  obtain ⟨t, ht⟩ := g_lt w b o cap _ _ _ _ _ _ _ _ hb h0 h1
  exact ⟨_, _, _, _, .truth t, rfl, ht⟩

set_option maxRecDepth 100000 in
set_option maxHeartbeats 1000000 in
theorem t_op16 (w : World) (A : Option Addr) (cap : Nat) (kk nn dd ts : Nat → Int) (ss : Nat → ByteArray) (sh : Int) (hv : Vals w A 2 kk nn dd ss) (ha : allTy 2 ts) (hg : ∀ k, k < 2 → Good (kk k) (nn k) (dd k) (ss k))
    (hf : ∀ k, k < 2 → fitB (kk k) (dd k) (ts k) = true) (hT : foldT (rowN 16) ts 2 = some sh) : Res w 16 A 2 cap 1 := by
  rw [show rowN 16 = n3 4 4 0 from rfl] at hT
  obtain ⟨hK, i0, i1⟩ := L_alike2 ha hT
  have k0 := fit_kind (ha 0 (by omega)) (hf 0 (by omega))
  have k1 := fit_kind (ha 1 (by omega)) (hf 1 (by omega))
  rw [← hK] at k1
  refine res_of w 16 A 2 cap 2 4 4 0 1 false 141 kk nn dd ss (by omega) hv (fun W => f_op16 W) hg (S_alike2 (kindOf_pos _) k0 k1) (enters_of Tryz.func141 (by kernel_rfl) rfl) 1 ?_
  intro hno
  obtain ⟨b, o, rfl, hb, hc⟩ := hv (by omega)
  have h0 : ValIn w b o (kk 0) (nn 0) (dd 0) (ss 0) := by
    have h9 := hc 0 (by omega)
    exact h9
  have h1 : ValIn w b (o + 4) (kk 1) (nn 1) (dd 1) (ss 1) := by
    have h9 := hc 1 (by omega)
    exact h9
  obtain ⟨t, ht⟩ := g_le w b o cap _ _ _ _ _ _ _ _ hb h0 h1
  exact ⟨_, _, _, _, .truth t, rfl, ht⟩

set_option maxRecDepth 100000 in
set_option maxHeartbeats 1000000 in
theorem t_op17 (w : World) (A : Option Addr) (cap : Nat) (kk nn dd ts : Nat → Int) (ss : Nat → ByteArray) (sh : Int) (hv : Vals w A 2 kk nn dd ss) (ha : allTy 2 ts) (hg : ∀ k, k < 2 → Good (kk k) (nn k) (dd k) (ss k))
    (hf : ∀ k, k < 2 → fitB (kk k) (dd k) (ts k) = true) (hT : foldT (rowN 17) ts 2 = some sh) : Res w 17 A 2 cap 1 := by
  rw [show rowN 17 = n3 4 4 0 from rfl] at hT
  obtain ⟨hK, i0, i1⟩ := L_alike2 ha hT
  have k0 := fit_kind (ha 0 (by omega)) (hf 0 (by omega))
  have k1 := fit_kind (ha 1 (by omega)) (hf 1 (by omega))
  rw [← hK] at k1
  refine res_of w 17 A 2 cap 2 4 4 0 1 false 142 kk nn dd ss (by omega) hv (fun W => f_op17 W) hg (S_alike2 (kindOf_pos _) k0 k1) (enters_of Tryz.func142 (by kernel_rfl) rfl) 1 ?_
  intro hno
  obtain ⟨b, o, rfl, hb, hc⟩ := hv (by omega)
  have h0 : ValIn w b o (kk 0) (nn 0) (dd 0) (ss 0) := by
    have h9 := hc 0 (by omega)
    exact h9
  have h1 : ValIn w b (o + 4) (kk 1) (nn 1) (dd 1) (ss 1) := by
    have h9 := hc 1 (by omega)
    exact h9
  obtain ⟨t, ht⟩ := g_gt w b o cap _ _ _ _ _ _ _ _ hb h0 h1
  exact ⟨_, _, _, _, .truth t, rfl, ht⟩

set_option maxRecDepth 100000 in
set_option maxHeartbeats 1000000 in
theorem t_op18 (w : World) (A : Option Addr) (cap : Nat) (kk nn dd ts : Nat → Int) (ss : Nat → ByteArray) (sh : Int) (hv : Vals w A 2 kk nn dd ss) (ha : allTy 2 ts) (hg : ∀ k, k < 2 → Good (kk k) (nn k) (dd k) (ss k))
    (hf : ∀ k, k < 2 → fitB (kk k) (dd k) (ts k) = true) (hT : foldT (rowN 18) ts 2 = some sh) : Res w 18 A 2 cap 1 := by
  rw [show rowN 18 = n3 4 4 0 from rfl] at hT
  obtain ⟨hK, i0, i1⟩ := L_alike2 ha hT
  have k0 := fit_kind (ha 0 (by omega)) (hf 0 (by omega))
  have k1 := fit_kind (ha 1 (by omega)) (hf 1 (by omega))
  rw [← hK] at k1
  refine res_of w 18 A 2 cap 2 4 4 0 1 false 143 kk nn dd ss (by omega) hv (fun W => f_op18 W) hg (S_alike2 (kindOf_pos _) k0 k1) (enters_of Tryz.func143 (by kernel_rfl) rfl) 1 ?_
  intro hno
  obtain ⟨b, o, rfl, hb, hc⟩ := hv (by omega)
  have h0 : ValIn w b o (kk 0) (nn 0) (dd 0) (ss 0) := by
    have h9 := hc 0 (by omega)
    exact h9
  have h1 : ValIn w b (o + 4) (kk 1) (nn 1) (dd 1) (ss 1) := by
    have h9 := hc 1 (by omega)
    exact h9
  obtain ⟨t, ht⟩ := g_ge w b o cap _ _ _ _ _ _ _ _ hb h0 h1
  exact ⟨_, _, _, _, .truth t, rfl, ht⟩

set_option maxRecDepth 100000 in
set_option maxHeartbeats 1000000 in
theorem t_op19 (w : World) (A : Option Addr) (cap : Nat) (kk nn dd ts : Nat → Int) (ss : Nat → ByteArray) (sh : Int) (hv : Vals w A 2 kk nn dd ss) (ha : allTy 2 ts) (hg : ∀ k, k < 2 → Good (kk k) (nn k) (dd k) (ss k))
    (hf : ∀ k, k < 2 → fitB (kk k) (dd k) (ts k) = true) (hT : foldT (rowN 19) ts 2 = some sh) : Res w 19 A 2 cap 1 := by
  rw [show rowN 19 = n3 2 2 0 from rfl] at hT
  obtain ⟨t0, t1⟩ := L_bool2 ha hT
  have k0 := fit_bool (t0 ▸ hf 0 (by omega))
  have k1 := fit_bool (t1 ▸ hf 1 (by omega))
  refine res_of w 19 A 2 cap 2 2 2 0 1 true 144 kk nn dd ss (by omega) hv (fun W => f_op19 W) hg (S_bool2 k0 k1) (enters_of Tryz.func144 (by kernel_rfl) rfl) 1 ?_
  intro hno
  obtain ⟨b, o, rfl, hb, hc⟩ := hv (by omega)
  have h0 : ValIn w b o (kk 0) (nn 0) (dd 0) (ss 0) := by
    have h9 := hc 0 (by omega)
    exact h9
  have h1 : ValIn w b (o + 4) (kk 1) (nn 1) (dd 1) (ss 1) := by
    have h9 := hc 1 (by omega)
    exact h9
  have g0 := hg 0 (by omega)
  have g1 := hg 1 (by omega)
  generalize kk 0 = p0 at *
  generalize kk 1 = p1 at *
  generalize nn 0 = m0 at *
  generalize nn 1 = m1 at *
  generalize dd 0 = c0 at *
  generalize dd 1 = c1 at *
  generalize ss 0 = x0 at *
  generalize ss 1 = x1 at *
  rcases k0 with rfl | rfl
  · obtain ⟨rfl, rfl, a1, a2⟩ := good_miss g0 rfl
    rcases k1 with rfl | rfl
    · obtain ⟨rfl, rfl, b1, b2⟩ := good_miss g1 rfl
      exact ⟨0, m0, 0, noS, .missing m0 a1 a2, rfl, fun W hW => y_and W b o cap _ _ _ _ fun W2 hW2 => y_dec0_MM W2 b o cap m0 m1 (Nat.lt_of_lt_of_le hb (btr hW hW2).size) (h0.below (btr hW hW2) hb) (h1.below (btr hW hW2) hb)⟩
    · obtain ⟨rfl, rfl, hb1⟩ := good_bool g1 rfl
      rcases hb1 with rfl | rfl
      · exact ⟨1, 0, 0, noS, .truth false, rfl, fun W hW => y_and W b o cap _ _ _ _ fun W2 hW2 => y_dec0_MT W2 b o cap m0 (Nat.lt_of_lt_of_le hb (btr hW hW2).size) (h0.below (btr hW hW2) hb) (h1.below (btr hW hW2) hb)⟩
      · exact ⟨0, m0, 0, noS, .missing m0 a1 a2, rfl, fun W hW => y_and W b o cap _ _ _ _ fun W2 hW2 => y_dec0_MO W2 b o cap m0 (Nat.lt_of_lt_of_le hb (btr hW hW2).size) (h0.below (btr hW hW2) hb) (h1.below (btr hW hW2) hb)⟩
  · obtain ⟨rfl, rfl, hb0⟩ := good_bool g0 rfl
    rcases hb0 with rfl | rfl
    · exact ⟨1, 0, 0, noS, .truth false, rfl, fun W hW => y_and W b o cap _ _ _ _ fun W2 hW2 => y_dec0_T W2 b o cap _ _ _ _ (Nat.lt_of_lt_of_le hb (btr hW hW2).size) (h0.below (btr hW hW2) hb) (h1.below (btr hW hW2) hb)⟩
    · rcases k1 with rfl | rfl
      · obtain ⟨rfl, rfl, b1, b2⟩ := good_miss g1 rfl
        exact ⟨0, m1, 0, noS, .missing m1 b1 b2, rfl, fun W hW => y_and W b o cap _ _ _ _ fun W2 hW2 => y_dec0_OM W2 b o cap m1 (Nat.lt_of_lt_of_le hb (btr hW hW2).size) (h0.below (btr hW hW2) hb) (h1.below (btr hW hW2) hb)⟩
      · obtain ⟨rfl, rfl, hb1⟩ := good_bool g1 rfl
        rcases hb1 with rfl | rfl
        · exact ⟨1, 0, 0, noS, .truth false, rfl, fun W hW => y_and W b o cap _ _ _ _ fun W2 hW2 => y_dec0_OT W2 b o cap (Nat.lt_of_lt_of_le hb (btr hW hW2).size) (h0.below (btr hW hW2) hb) (h1.below (btr hW hW2) hb)⟩
        · exact ⟨1, 1, 0, noS, .truth true, rfl, fun W hW => y_and W b o cap _ _ _ _ fun W2 hW2 => y_dec0_OO W2 b o cap (Nat.lt_of_lt_of_le hb (btr hW hW2).size) (h0.below (btr hW hW2) hb) (h1.below (btr hW hW2) hb)⟩

set_option maxRecDepth 100000 in
set_option maxHeartbeats 1000000 in
theorem t_op20 (w : World) (A : Option Addr) (cap : Nat) (kk nn dd ts : Nat → Int) (ss : Nat → ByteArray) (sh : Int) (hv : Vals w A 2 kk nn dd ss) (ha : allTy 2 ts) (hg : ∀ k, k < 2 → Good (kk k) (nn k) (dd k) (ss k))
    (hf : ∀ k, k < 2 → fitB (kk k) (dd k) (ts k) = true) (hT : foldT (rowN 20) ts 2 = some sh) : Res w 20 A 2 cap 1 := by
  rw [show rowN 20 = n3 2 2 0 from rfl] at hT
  obtain ⟨t0, t1⟩ := L_bool2 ha hT
  have k0 := fit_bool (t0 ▸ hf 0 (by omega))
  have k1 := fit_bool (t1 ▸ hf 1 (by omega))
  refine res_of w 20 A 2 cap 2 2 2 0 1 true 146 kk nn dd ss (by omega) hv (fun W => f_op20 W) hg (S_bool2 k0 k1) (enters_of Tryz.func146 (by kernel_rfl) rfl) 1 ?_
  intro hno
  obtain ⟨b, o, rfl, hb, hc⟩ := hv (by omega)
  have h0 : ValIn w b o (kk 0) (nn 0) (dd 0) (ss 0) := by
    have h9 := hc 0 (by omega)
    exact h9
  have h1 : ValIn w b (o + 4) (kk 1) (nn 1) (dd 1) (ss 1) := by
    have h9 := hc 1 (by omega)
    exact h9
  have g0 := hg 0 (by omega)
  have g1 := hg 1 (by omega)
  generalize kk 0 = p0 at *
  generalize kk 1 = p1 at *
  generalize nn 0 = m0 at *
  generalize nn 1 = m1 at *
  generalize dd 0 = c0 at *
  generalize dd 1 = c1 at *
  generalize ss 0 = x0 at *
  generalize ss 1 = x1 at *
  rcases k0 with rfl | rfl
  · obtain ⟨rfl, rfl, a1, a2⟩ := good_miss g0 rfl
    rcases k1 with rfl | rfl
    · obtain ⟨rfl, rfl, b1, b2⟩ := good_miss g1 rfl
      exact ⟨0, m0, 0, noS, .missing m0 a1 a2, rfl, fun W hW => y_or W b o cap _ _ _ _ fun W2 hW2 => y_dec1_MM W2 b o cap m0 m1 (Nat.lt_of_lt_of_le hb (btr hW hW2).size) (h0.below (btr hW hW2) hb) (h1.below (btr hW hW2) hb)⟩
    · obtain ⟨rfl, rfl, hb1⟩ := good_bool g1 rfl
      rcases hb1 with rfl | rfl
      · exact ⟨0, m0, 0, noS, .missing m0 a1 a2, rfl, fun W hW => y_or W b o cap _ _ _ _ fun W2 hW2 => y_dec1_MO W2 b o cap m0 (Nat.lt_of_lt_of_le hb (btr hW hW2).size) (h0.below (btr hW hW2) hb) (h1.below (btr hW hW2) hb)⟩
      · exact ⟨1, 1, 0, noS, .truth true, rfl, fun W hW => y_or W b o cap _ _ _ _ fun W2 hW2 => y_dec1_MT W2 b o cap m0 (Nat.lt_of_lt_of_le hb (btr hW hW2).size) (h0.below (btr hW hW2) hb) (h1.below (btr hW hW2) hb)⟩
  · obtain ⟨rfl, rfl, hb0⟩ := good_bool g0 rfl
    rcases hb0 with rfl | rfl
    · rcases k1 with rfl | rfl
      · obtain ⟨rfl, rfl, b1, b2⟩ := good_miss g1 rfl
        exact ⟨0, m1, 0, noS, .missing m1 b1 b2, rfl, fun W hW => y_or W b o cap _ _ _ _ fun W2 hW2 => y_dec1_OM W2 b o cap m1 (Nat.lt_of_lt_of_le hb (btr hW hW2).size) (h0.below (btr hW hW2) hb) (h1.below (btr hW hW2) hb)⟩
      · obtain ⟨rfl, rfl, hb1⟩ := good_bool g1 rfl
        rcases hb1 with rfl | rfl
        · exact ⟨1, 0, 0, noS, .truth false, rfl, fun W hW => y_or W b o cap _ _ _ _ fun W2 hW2 => y_dec1_OO W2 b o cap (Nat.lt_of_lt_of_le hb (btr hW hW2).size) (h0.below (btr hW hW2) hb) (h1.below (btr hW hW2) hb)⟩
        · exact ⟨1, 1, 0, noS, .truth true, rfl, fun W hW => y_or W b o cap _ _ _ _ fun W2 hW2 => y_dec1_OT W2 b o cap (Nat.lt_of_lt_of_le hb (btr hW hW2).size) (h0.below (btr hW hW2) hb) (h1.below (btr hW hW2) hb)⟩
    · exact ⟨1, 1, 0, noS, .truth true, rfl, fun W hW => y_or W b o cap _ _ _ _ fun W2 hW2 => y_dec1_T W2 b o cap _ _ _ _ (Nat.lt_of_lt_of_le hb (btr hW hW2).size) (h0.below (btr hW hW2) hb) (h1.below (btr hW hW2) hb)⟩

set_option maxRecDepth 100000 in
set_option maxHeartbeats 1000000 in
theorem t_op21 (w : World) (A : Option Addr) (cap : Nat) (kk nn dd ts : Nat → Int) (ss : Nat → ByteArray) (sh : Int) (hv : Vals w A 2 kk nn dd ss) (ha : allTy 2 ts) (hg : ∀ k, k < 2 → Good (kk k) (nn k) (dd k) (ss k))
    (hf : ∀ k, k < 2 → fitB (kk k) (dd k) (ts k) = true) (hT : foldT (rowN 21) ts 2 = some sh) : Res w 21 A 2 cap sh := by
  rw [show rowN 21 = n3 4 4 0 from rfl] at hT
  obtain ⟨hK, i0, i1⟩ := L_alike2 ha hT
  have k0 := fit_kind (ha 0 (by omega)) (hf 0 (by omega))
  have k1 := fit_kind (ha 1 (by omega)) (hf 1 (by omega))
  rw [← hK] at k1
  refine res_of w 21 A 2 cap 2 4 4 0 0 true 147 kk nn dd ss (by omega) hv (fun W => f_op21 W) hg (S_alike2 (kindOf_pos _) k0 k1) (enters_of Tryz.func147 (by kernel_rfl) rfl) sh ?_
  intro hno
  obtain ⟨b, o, rfl, hb, hc⟩ := hv (by omega)
  have h0 : ValIn w b o (kk 0) (nn 0) (dd 0) (ss 0) := by
    have h9 := hc 0 (by omega)
    exact h9
  have h1 : ValIn w b (o + 4) (kk 1) (nn 1) (dd 1) (ss 1) := by
    have h9 := hc 1 (by omega)
    exact h9
  by_cases hk : kk 0 = 0
  · exact ⟨_, _, _, _, hg 1 (by omega), i1 _ _ (hf 1 (by omega)), fun W hW => g_else W b o cap _ _ _ _ _ _ _ _ _ _ _ _ (Nat.lt_of_lt_of_le hb hW.size) (h0.below hW hb) (h1.below hW hb) (by rw [if_pos (by rw [beq_iff_eq]; exact hk)])⟩
  · exact ⟨_, _, _, _, hg 0 (by omega), i0 _ _ (hf 0 (by omega)), fun W hW => g_else W b o cap _ _ _ _ _ _ _ _ _ _ _ _ (Nat.lt_of_lt_of_le hb hW.size) (h0.below hW hb) (h1.below hW hb) (by rw [if_neg (by rw [beq_iff_eq]; exact hk)])⟩

set_option maxRecDepth 100000 in
set_option maxHeartbeats 1000000 in
theorem t_op22 (w : World) (A : Option Addr) (cap : Nat) (kk nn dd ts : Nat → Int) (ss : Nat → ByteArray) (sh : Int) (hv : Vals w A 3 kk nn dd ss) (ha : allTy 3 ts) (hg : ∀ k, k < 3 → Good (kk k) (nn k) (dd k) (ss k))
    (hf : ∀ k, k < 3 → fitB (kk k) (dd k) (ts k) = true) (hT : foldT (rowN 22) ts 3 = some sh) : Res w 22 A 3 cap sh := by
  rw [show rowN 22 = n3 2 4 4 from rfl] at hT
  obtain ⟨t0, hK, i1, i2⟩ := L_if ha hT
  have k0 := fit_bool (t0 ▸ hf 0 (by omega))
  have k1 := fit_kind (ha 1 (by omega)) (hf 1 (by omega))
  have k2 := fit_kind (ha 2 (by omega)) (hf 2 (by omega))
  rw [← hK] at k2
  refine res_of w 22 A 3 cap 3 2 4 4 0 true 149 kk nn dd ss (by omega) hv (fun W => f_op22 W) hg (S_if (kindOf_pos _) k0 k1 k2) (enters_of Tryz.func149 (by kernel_rfl) rfl) sh ?_
  intro hno
  obtain ⟨b, o, rfl, hb, hc⟩ := hv (by omega)
  have h0 : ValIn w b o (kk 0) (nn 0) (dd 0) (ss 0) := by
    have h9 := hc 0 (by omega)
    exact h9
  have h1 : ValIn w b (o + 4) (kk 1) (nn 1) (dd 1) (ss 1) := by
    have h9 := hc 1 (by omega)
    exact h9
  have h2 : ValIn w b (o + 8) (kk 2) (nn 2) (dd 2) (ss 2) := by
    have h9 := hc 2 (by omega)
    exact h9
  by_cases hk : kk 0 = 0
  · exact ⟨_, _, _, _, hg 0 (by omega), hk ▸ fit_zero _ _, fun W hW => g_if0 W b o cap _ _ _ _ _ _ _ _ _ _ _ _ (Nat.lt_of_lt_of_le hb hW.size) (h0.below hW hb) (h1.below hW hb) (h2.below hW hb) hk⟩
  · by_cases hn : nn 0 = 1
    · exact ⟨_, _, _, _, hg 1 (by omega), i1 _ _ (hf 1 (by omega)), fun W hW => g_if W b o cap _ _ _ _ _ _ _ _ _ _ _ _ _ _ _ _ (Nat.lt_of_lt_of_le hb hW.size) (h0.below hW hb) (h1.below hW hb) (h2.below hW hb) hk (by rw [if_pos (by rw [beq_iff_eq]; exact hn)])⟩
    · exact ⟨_, _, _, _, hg 2 (by omega), i2 _ _ (hf 2 (by omega)), fun W hW => g_if W b o cap _ _ _ _ _ _ _ _ _ _ _ _ _ _ _ _ (Nat.lt_of_lt_of_le hb hW.size) (h0.below hW hb) (h1.below hW hb) (h2.below hW hb) hk (by rw [if_neg (by rw [beq_iff_eq]; exact hn)])⟩

end Go.Proofs.YthppcklegdnjdaaGreatDoor
end
