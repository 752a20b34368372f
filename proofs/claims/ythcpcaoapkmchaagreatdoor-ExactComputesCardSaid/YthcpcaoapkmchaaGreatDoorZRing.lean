/- Numbers as quotients of integers: how many words they have. -/
import Derived.Test.YthcpcaoapkmchaaGreatDoorZRatV
import Derived.Test.YthcpcaoapkmchaaGreatDoorZWk
import Derived.Test.YthcpcaoapkmchaaGreatDoorZFmt
import Derived.Test.YthcpcaoapkmchaaGreatDoorZRow
import Derived.ChangeArms
import Derived.ChangeSlices
import Derived.Stop.LaidErr
import Derived.Lib.LaidTab

/- Numbers as quotients of integers: how many words they have. -/
section
namespace Go.Proofs.YthcpcaoapkmchaaGreatDoor
open Go.RowKit Go.Deep

theorem RatW.mono {q : Rat} {a b : Nat} (h : RatW q a) (hab : a ≤ b) : RatW q b := ⟨Nat.le_trans h.1 hab, Nat.le_trans h.2 hab⟩
theorem ratW_add {p q : Rat} {a b : Nat} (hp : RatW p a) (hq : RatW q b) : RatW (p + q) (2 * (a + b) + 1) := by
  obtain ⟨e1, e2⟩ := rat_add p q _ _ _ _ _ rfl rfl rfl rfl rfl
  have h1 := nw_mul p.num.natAbs q.den
  have h2 := nw_mul q.num.natAbs p.den
  have h3 := nw_add (p.num.natAbs * q.den) (q.num.natAbs * p.den)
  have h4 := nw_mul p.den q.den
  refine ⟨?_, ?_⟩
  · rw [e1]
    refine Nat.le_trans (nw_mono (y := p.num.natAbs * q.den + q.num.natAbs * p.den) ?_) (by have := hp.1; have := hp.2; have := hq.1; have := hq.2; omega)
    refine Nat.le_trans (Int.natAbs_ediv_le_natAbs _ _) ?_
    refine Nat.le_trans (Int.natAbs_add_le _ _) ?_
    rw [Int.natAbs_mul, Int.natAbs_mul, Int.natAbs_natCast, Int.natAbs_natCast]
    exact Nat.add_le_add (Nat.mul_le_mul_left _ (Nat.div_le_self _ _)) (Nat.mul_le_mul_left _ (Nat.div_le_self _ _))
  · rw [e2]
    refine Nat.le_trans (nw_mono (y := p.den * q.den) ?_) (by have := hp.2; have := hq.2; omega)
    exact Nat.mul_le_mul (Nat.div_le_self _ _) (Nat.div_le_self _ _)
theorem ratW_neg {q : Rat} {b : Nat} (hq : RatW q b) : RatW (-q) b := ⟨by rw [Rat.neg_num, Int.natAbs_neg]; exact hq.1, by rw [Rat.neg_den]; exact hq.2⟩
theorem ratW_sub {p q : Rat} {a b : Nat} (hp : RatW p a) (hq : RatW q b) : RatW (p - q) (2 * (a + b) + 1) := by
  rw [Rat.sub_eq_add_neg]; exact ratW_add hp (ratW_neg hq)
theorem ratW_mul {p q : Rat} {a b : Nat} (hp : RatW p a) (hq : RatW q b) : RatW (p * q) (a + b) := by
  obtain ⟨_, e1, e2⟩ := mul_parts p q (decide (q.num < 0)) q.num.natAbs (sInt_of _)
  have h1 := nw_mul p.num.natAbs q.num.natAbs
  have h2 := nw_mul p.den q.den
  refine ⟨?_, ?_⟩
  · rw [← e1]
    exact Nat.le_trans (nw_mono (Nat.mul_le_mul (Nat.div_le_self _ _) (Nat.div_le_self _ _))) (by have := hp.1; have := hq.1; omega)
  · rw [← e2]
    exact Nat.le_trans (nw_mono (Nat.mul_le_mul (Nat.div_le_self _ _) (Nat.div_le_self _ _))) (by have := hp.2; have := hq.2; omega)
theorem ratW_div {p q : Rat} {a b : Nat} (hp : RatW p a) (hq : RatW q b) (h : q ≠ 0) : RatW (p / q) (a + b) := by
  have hq0 : q.num ≠ 0 := fun h9 => h (Rat.num_eq_zero.1 h9)
  obtain ⟨i1, i2⟩ := rat_inv q hq0
  rw [Rat.div_def]
  exact ratW_mul hp ⟨by rw [i1, sInt_natAbs]; exact hq.2, by rw [i2]; exact hq.1⟩
/-- A number in lowest terms is one of Lean's. -/
theorem rat_exists (s : Bool) (n d : Nat) (hd : 0 < d) (hc : Nat.gcd n d = 1) : ∃ q : Rat, sgn s n = decide (q.num < 0) ∧ n = q.num.natAbs ∧ d = q.den := by
  refine ⟨⟨sInt s n, d, by omega, by rw [sInt_natAbs]; exact hc⟩, ?_, (sInt_natAbs s n).symm, rfl⟩
  show sgn s n = decide (sInt s n < 0)
  unfold sgn sInt
  cases s
  · simp
  · simp
theorem v_Of (w : World) (x y : Int) (hx0 : -9223372036854775808 ≤ x) (hx1 : x ≤ 9223372036854775807) (hy0 : -9223372036854775808 ≤ y) (hy1 : y ≤ 9223372036854775807) (hy : y ≠ 0) :
    Calls Tryz.prog 26 #[.int .i64 x, .int .i64 y] w fun e w' => ∃ u q, e = .returned (.tuple #[u, .int .i64 0]) ∧ RatV w' u q ∧ RatW q 1 ∧ Below w.heap.size w w' := by
  refine (c_Of w x y hx0 hx1 hy0 hy1 hy).mono ?_
  rintro e w' ⟨u, rfl, hu, hb⟩
  have hg : 0 < Nat.gcd x.natAbs y.natAbs := Nat.gcd_pos_of_pos_right _ (by omega)
  have hd : 0 < y.natAbs / Nat.gcd x.natAbs y.natAbs := Nat.div_pos (Nat.le_of_dvd (by omega) (Nat.gcd_dvd_right _ _)) hg
  obtain ⟨q, q1, q2, q3⟩ := rat_exists (decide (x < 0) != decide (y < 0)) (x.natAbs / Nat.gcd x.natAbs y.natAbs) (y.natAbs / Nat.gcd x.natAbs y.natAbs) hd (Nat.coprime_div_gcd_div_gcd hg)
  refine ⟨u, q, rfl, hu.toV q1 q2 q3, ⟨?_, ?_⟩, hb⟩
  · rw [← q2, nw_le_one]
    exact Nat.lt_of_le_of_lt (Nat.div_le_self _ _) (by unfold W64; omega)
  · rw [← q3, nw_le_one]
    exact Nat.lt_of_le_of_lt (Nat.div_le_self _ _) (by unfold W64; omega)

/-- A slice of n pairs of integers. -/
def Pairs (w : World) (A : Option Addr) (n : Nat) (ts us : Nat → Int) : Prop :=
  0 < n → ∃ b o, A = some ⟨b, o, none⟩ ∧ b < w.heap.size ∧ ∀ k, k < n → w.cell? ⟨b, o + k * 2, none⟩ = some (.int .i64 (ts k)) ∧ w.cell? ⟨b, o + k * 2 + 1, none⟩ = some (.int .i64 (us k)) ∧
    (-9223372036854775808 ≤ ts k ∧ ts k ≤ 9223372036854775807) ∧ (-9223372036854775808 ≤ us k ∧ us k ≤ 9223372036854775807)
theorem Pairs.below {w w' : World} {A : Option Addr} {n : Nat} {ts us : Nat → Int} (h : Pairs w A n ts us) (hb : Below w.heap.size w w') : Pairs w' A n ts us := by
  intro hn
  obtain ⟨b, o, e, hlt, hc⟩ := h hn
  exact ⟨b, o, e, Nat.lt_of_lt_of_le hlt hb.size, fun k hk => ⟨(hb.cell (p := ⟨b, o + k * 2, none⟩) hlt).trans (hc k hk).1, (hb.cell (p := ⟨b, o + k * 2 + 1, none⟩) hlt).trans (hc k hk).2.1, (hc k hk).2.2⟩⟩

/-- How many words a number made of so many pairs has at most. -/
def bnd : Nat → Nat
  | 0 => 1
  | i + 1 => if i % 2 = 0 then bnd i + 1 else 2 * (bnd i + 1) + 1
theorem bnd_le : ∀ n, n ≤ 12 → bnd n ≤ 400 := by decide

end Go.Proofs.YthcpcaoapkmchaaGreatDoor
end

/- From the row's condition to the walk: a list of pairs, and the table of powers of ten. -/
section
namespace Go.Proofs.YthcpcaoapkmchaaGreatDoor
open Go.ChangeShapes Go.WideShapes Go.ChangeAt Go.RowKit

section
variable {H : Type} {enc : TypeId × Value → H} {P : Program} {w : World} {base : Nat} {spare : Nat → Bool} {held : Bool}

theorem trod_array2 {t e : TypeId} {fuel : Nat} {c0 c1 : Value} {x : DataW H × List MemPlace} (ht : P.underlying t = some (.array 2 e)) (hce : P.cellsOf e = 1)
    (h : DataW.trod enc P w base spare held fuel t [c0, c1] = some x) :
    ∃ y0 y1 n, DataW.trod enc P w base spare held n e [c0] = some y0 ∧ DataW.trod enc P w base spare held n e [c1] = some y1 := by
  cases fuel with
  | zero => simp [DataW.trod] at h
  | succ n =>
    unfold DataW.trod at h
    rw [ht] at h
    have r2 : List.range 2 = [0, 1] := rfl
    simp [r2, hce] at h
    obtain ⟨_, h⟩ := h
    cases h0 : DataW.trod enc P w base spare held n e [c0] with
    | none => simp [h0] at h
    | some y0 =>
      cases h1 : DataW.trod enc P w base spare held n e [c1] with
      | none => simp [h0, h1] at h
      | some y1 => exact ⟨y0, y1, n, h0, h1⟩

/-- The cells of a list of pairs. -/
theorem open_pairs {t e i : TypeId} {fuel : Nat} {A : Option Addr} {n cap : Nat} {x : DataW H × List MemPlace} (ht : P.underlying t = some (.slice e)) (he : P.underlying e = some (.array 2 i)) (hi : P.underlying i = some (.int .i64))
    (hc2 : P.cellsOf e = 2) (hc1 : P.cellsOf i = 1) (h : DataW.trod enc P w base spare held fuel t [.slice A n cap] = some x) : ∃ ts us : Nat → Int, Pairs w A n ts us := by
  rcases DataW.trod_slice ht h with ⟨h0, _⟩ | ⟨a, len, cap', elems, rest, m, _, hcs, _, hb, hl, hm, hlen, hel, hsp, hns⟩
  · obtain ⟨rfl, rfl, rfl⟩ : A = none ∧ n = 0 ∧ cap = 0 := by simpa using h0
    exact ⟨fun _ => 0, fun _ => 0, fun h9 => absurd h9 (by omega)⟩
  · obtain ⟨rfl, rfl, rfl⟩ : A = some a ∧ n = len ∧ cap = cap' := by simpa using hcs
    have each : ∀ k, k < n → ∃ z1 z2 : Int, w.cell? (a.add (k * 2)) = some (.int .i64 z1) ∧ w.cell? ((a.add (k * 2)).add 1) = some (.int .i64 z2) ∧ (Lit.int .i64 z1).wf = true ∧ (Lit.int .i64 z2).wf = true := by
      intro k hk
      have h1 := hel k hk
      have hk' : k < elems.length := by omega
      rw [hc2, List.getElem?_eq_getElem hk', Option.bind_eq_some_iff] at h1
      obtain ⟨cs', hcs', hy⟩ := h1
      obtain ⟨_, hl2, hcell⟩ := World.cells?_some hcs'
      match cs', hl2 with
      | [c0, c1], _ =>
        obtain ⟨y0, y1, n', e0, e1⟩ := trod_array2 he hc1 hy
        obtain ⟨z1, q1, _, w1⟩ := DataW.trod_int hi e0
        obtain ⟨z2, q2, _, w2⟩ := DataW.trod_int hi e1
        obtain rfl : c0 = .int .i64 z1 := by simpa using q1
        obtain rfl : c1 = .int .i64 z2 := by simpa using q2
        exact ⟨z1, z2, by simpa [Addr.add] using hcell 0 (by omega), by simpa using hcell 1 (by omega), w1, w2⟩
    have pick : ∃ f : Nat → Int × Int, ∀ k, k < n → w.cell? (a.add (k * 2)) = some (.int .i64 (f k).1) ∧ w.cell? ((a.add (k * 2)).add 1) = some (.int .i64 (f k).2) ∧ (Lit.int .i64 (f k).1).wf = true ∧ (Lit.int .i64 (f k).2).wf = true :=
      ⟨fun k => if hk : k < n then ((each k hk).choose, (each k hk).choose_spec.choose) else (0, 0), fun k hk => by
        simp only [dif_pos hk]
        exact (each k hk).choose_spec.choose_spec⟩
    obtain ⟨f, hf⟩ := pick
    refine ⟨fun k => (f k).1, fun k => (f k).2, fun hn => ?_⟩
    obtain ⟨b, off, spot⟩ := a
    have hspot : spot = none := by simpa [Addr.add] using World.cell?_spot (hf 0 hn).1
    subst hspot
    have rng : ∀ z : Int, (Lit.int .i64 z).wf = true → -9223372036854775808 ≤ z ∧ z ≤ 9223372036854775807 := by
      intro z hz
      have h1 : IntKind.i64.min = -9223372036854775808 := rfl
      have h2 : IntKind.i64.max = 9223372036854775807 := rfl
      simp [Lit.wf, h1, h2] at hz
      omega
    refine ⟨b, off, rfl, ?_, fun k hk => ?_⟩
    · exact cell_lt (b := b) (o := off + 0 * 2) (by have := (hf 0 hn).1; rw [Go.WideShapes.add_plain] at this; exact this)
    · obtain ⟨q1, q2, w1, w2⟩ := hf k hk
      rw [Go.WideShapes.add_plain] at q1 q2
      rw [Go.WideShapes.add_plain] at q2
      exact ⟨q1, q2, rng _ w1, rng _ w2⟩
end

theorem cellsI64 : Tryz.prog.cellsOf 2 = 1 := by kernel_rfl
theorem cellsPair : Tryz.prog.cellsOf 94 = 2 := by kernel_rfl
/-- The table that every row of this layer lists third. -/
theorem tab_of {W : World} {x y : String × DataW Unit} {r : List (String × DataW Unit)} (h : laidMet Tryz.prog (x :: y :: ("internal/strconv.uint64pow10", Rows.laid_internal_strconv_uint64pow10) :: r) W) : Tab W :=
  have h' : laidMet Tryz.prog (("internal/strconv.uint64pow10", Lib.tabData .u64 Lib.pow10Tab) :: r) W := h.tail.tail
  Lib.tabIs_of_head (g := 3) (t := 197) (e := 100) (n := 20) (by kernel_rfl) (by kernel_rfl) (by kernel_rfl) (by kernel_rfl) (by kernel_rfl) (by kernel_rfl) h'
end Go.Proofs.YthcpcaoapkmchaaGreatDoor
end
