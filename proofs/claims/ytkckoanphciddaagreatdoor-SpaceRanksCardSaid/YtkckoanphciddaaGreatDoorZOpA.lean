/- Lists of dimensions, attributes and values compared: what is asked, and the reference. -/
import Derived.Test.YtkckoanphciddaaGreatDoorZRfD
import Derived.Test.YtkckoanphciddaaGreatDoorZSch
import Derived.Test.YtkckoanphciddaaGreatDoorZMathT
import Derived.Maps.AppendAt
import Derived.Test.YtkckoanphciddaaGreatDoorShelf
import Derived.Deep.OwnRows
import Derived.Test.YtkckoanphciddaaGreatDoorZWka

/- Lists of dimensions, attributes and values compared: what is asked, and the reference. -/
section
namespace Go.Proofs.YtkckoanphciddaaGreatDoor
open Go Go.RowKit Go.Deep

/-- Do the first k have it? -/
def allTo (p : Nat → Bool) : Nat → Bool
  | 0 => true
  | k + 1 => allTo p k && p k
theorem allTo_le {p : Nat → Bool} {k n : Nat} (h : allTo p k = false) (hn : k ≤ n) : allTo p n = false := by
  induction n with
  | zero => obtain rfl : k = 0 := by omega
            exact h
  | succ n ih =>
    by_cases e : k = n + 1
    · rw [← e]; exact h
    · rw [allTo, ih (by omega)]; rfl
theorem allTo_iff {p : Nat → Bool} {n : Nat} : allTo p n = true ↔ ∀ k, k < n → p k = true := by
  induction n with
  | zero => simp [allTo]
  | succ n ih =>
    rw [allTo, Bool.and_eq_true, ih]
    constructor
    · rintro ⟨h1, h2⟩ k hk
      by_cases e : k = n
      · rw [e]; exact h2
      · exact h1 k (by omega)
    · exact fun h => ⟨fun k hk => h k (by omega), h n (by omega)⟩
def dqQ (nm nm' : Nat → ByteArray) (lo lo' : Nat → Int) (hi hi' : Nat → Int) (k : Nat) : Bool := decide (nm k = nm' k) && (lo k == lo' k && (hi k == hi' k))
def sameD (n n' : Nat) (nm nm' : Nat → ByteArray) (lo lo' : Nat → Int) (hi hi' : Nat → Int) : Bool := n == n' && allTo (dqQ nm nm' lo lo' hi hi') n
def aqQ (an an' : Nat → ByteArray) (ty ty' : Nat → Int) (k : Nat) : Bool := decide (an k = an' k) && (ty k == ty' k)
def sameA (n n' : Nat) (an an' : Nat → ByteArray) (ty ty' : Nat → Int) : Bool := n == n' && allTo (aqQ an an' ty ty') n
def vqQ (vk vk' : Nat → Int) (vn vn' : Nat → Int) (vd vd' : Nat → Int) (vs vs' : Nat → ByteArray) (k : Nat) : Bool := vk k == vk' k && (vn k == vn' k && (vd k == vd' k && (decide (vs k = vs' k))))
def sameV (n n' : Nat) (vk vk' : Nat → Int) (vn vn' : Nat → Int) (vd vd' : Nat → Int) (vs vs' : Nat → ByteArray) : Bool := n == n' && allTo (vqQ vk vk' vn vn' vd vd' vs vs') n
set_option maxRecDepth 100000 in
set_option maxHeartbeats 2000000 in
theorem r_SameDims (w : World) (A B : Option Addr) (n c m d : Nat) (nm nm' : Nat → ByteArray) (lo lo' : Nat → Int) (hi hi' : Nat → Int) (ha : DimsAt w A n nm lo hi) (hb : DimsAt w B m nm' lo' hi') (hn : n ≤ 1000000) (hm : m ≤ 1000000) :
    Calls Tryz.prog 62 #[.slice A n c, .slice B m d] w fun e w' => e = .returned (.bool (sameD n m nm nm' lo lo' hi hi')) ∧ Below w.heap.size w w' := by
  have HA := Lib.hid ha
  have HB := Lib.hid hb
  obtain ⟨ve, hve⟩ : ∃ ve, sameD n m nm nm' lo lo' hi hi' = ve := ⟨_, rfl⟩
  rw [hve]
  have HV := Lib.hid hve
  clear ha hb hve
  by_cases h0 : n = m
  · subst h0
    have HE : Hid (ve = allTo (dqQ nm nm' lo lo' hi hi') n) := by show _ = _; rw [← HV.out, sameD, beq_self_eq_true, Bool.true_and]
    go_enter Tryz.func62, Tryz.ntmps62
    go_wp2
    go_loopw [5] (fun i wr => ∃ k : Nat, k ≤ n ∧ i = .int .i64 k ∧ Hid (allTo (dqQ nm nm' lo lo' hi hi') k = true) ∧ Hid (Below w.heap.size w wr)) (fun i _ => n - (intOf i).toNat)
    case atStart => exact ⟨0, Nat.zero_le _, rfl, rfl, Below.refl _ _⟩
    case round =>
      obtain ⟨k, hk, rfl, HK, HBw⟩ := hrel
      by_cases hlt : k < n
      · obtain ⟨b1, o1, rfl, _, hc1⟩ := (HA.out.below HBw.out) (by omega)
        obtain ⟨x0, x1, x2⟩ := hc1 k hlt
        obtain ⟨b2, o2, rfl, _, hc2⟩ := (HB.out.below HBw.out) (by omega)
        obtain ⟨y0, y1, y2⟩ := hc2 k hlt
        clear hc1 hc2
        have HS : Hid (allTo (dqQ nm nm' lo lo' hi hi') (k + 1) = (dqQ nm nm' lo lo' hi hi') k) := by show _ = _; rw [allTo, HK.out, Bool.true_and]
        have HD : Hid ((dqQ nm nm' lo lo' hi hi') k = (decide (nm k = nm' k) && (lo k == lo' k && (hi k == hi' k)))) := rfl
        have HL : Hid ((dqQ nm nm' lo lo' hi hi') k = false → ve = false) := fun h => by rw [HE.out]; exact allTo_le (k := k + 1) (by rw [HS.out, h]) (by omega)
        generalize nm k = nm9 at *
        generalize nm' k = nm8 at *
        generalize lo k = lo9 at *
        generalize lo' k = lo8 at *
        generalize hi k = hi9 at *
        generalize hi' k = hi8 at *
        by_cases g0 : nm9 = nm8
        · subst g0
          by_cases g1 : lo9 = lo8
          · subst g1
            by_cases g2 : hi9 = hi8
            · subst g2
              have HR : Hid (allTo (dqQ nm nm' lo lo' hi hi') (k + 1) = true) := by show _ = _; rw [HS.out, HD.out]; simp
              clear HS HD HL
              go_wp2
              go_quiet (fail)
              go_wp2
              go_roundw
              case rel => exact ⟨k + 1, by omega, by go_num, HR.out, drewB HBw.out _⟩
              case measure => simp [intOf]; omega
            · have HF : Hid (ve = false) := HL.out (by rw [HD.out]; simp [g2])
              clear HS HD HL
              go_wp2
              go_quiet (fail)
              go_wp2
              go_ret
              exact ⟨by rw [HF.out]; rfl, drewB HBw.out _⟩
          · have HF : Hid (ve = false) := HL.out (by rw [HD.out]; simp [g1])
            clear HS HD HL
            go_wp2
            go_quiet (fail)
            go_wp2
            go_ret
            exact ⟨by rw [HF.out]; rfl, drewB HBw.out _⟩
        · have HF : Hid (ve = false) := HL.out (by rw [HD.out]; simp [g0])
          have e0 : ¬ nm9.toList = nm8.toList := fun h => g0 (str_eq (by rw [h]; simp))
          clear HS HD HL
          go_wp2
          go_quiet (fail)
          go_wp2
          go_ret
          exact ⟨by rw [HF.out]; rfl, drewB HBw.out _⟩
      · obtain rfl : k = n := by omega
        go_wp2
        go_ret
        exact ⟨by rw [HE.out, HK.out]; rfl, HBw.out⟩
  · have HE : Hid (ve = false) := by show _ = _; rw [← HV.out, sameD, beq_false_of_ne h0, Bool.false_and]
    have h1 : ((n : Int) != (m : Int)) = true := by rw [bne_iff_ne]; omega
    go_enter Tryz.func62, Tryz.ntmps62
    go_wp2
    go_ret
    exact ⟨by rw [HE.out]; rfl, Below.refl _ _⟩
set_option maxRecDepth 100000 in
set_option maxHeartbeats 2000000 in
theorem r_SameAttrs (w : World) (A B : Option Addr) (n c m d : Nat) (an an' : Nat → ByteArray) (ty ty' : Nat → Int) (ha : AttrsAt w A n an ty) (hb : AttrsAt w B m an' ty') (hn : n ≤ 1000000) (hm : m ≤ 1000000) :
    Calls Tryz.prog 63 #[.slice A n c, .slice B m d] w fun e w' => e = .returned (.bool (sameA n m an an' ty ty')) ∧ Below w.heap.size w w' := by
  have HA := Lib.hid ha
  have HB := Lib.hid hb
  obtain ⟨ve, hve⟩ : ∃ ve, sameA n m an an' ty ty' = ve := ⟨_, rfl⟩
  rw [hve]
  have HV := Lib.hid hve
  clear ha hb hve
  by_cases h0 : n = m
  · subst h0
    have HE : Hid (ve = allTo (aqQ an an' ty ty') n) := by show _ = _; rw [← HV.out, sameA, beq_self_eq_true, Bool.true_and]
    go_enter Tryz.func63, Tryz.ntmps63
    go_wp2
    go_loopw [5] (fun i wr => ∃ k : Nat, k ≤ n ∧ i = .int .i64 k ∧ Hid (allTo (aqQ an an' ty ty') k = true) ∧ Hid (Below w.heap.size w wr)) (fun i _ => n - (intOf i).toNat)
    case atStart => exact ⟨0, Nat.zero_le _, rfl, rfl, Below.refl _ _⟩
    case round =>
      obtain ⟨k, hk, rfl, HK, HBw⟩ := hrel
      by_cases hlt : k < n
      · obtain ⟨b1, o1, rfl, _, hc1⟩ := (HA.out.below HBw.out) (by omega)
        obtain ⟨x0, x1⟩ := hc1 k hlt
        obtain ⟨b2, o2, rfl, _, hc2⟩ := (HB.out.below HBw.out) (by omega)
        obtain ⟨y0, y1⟩ := hc2 k hlt
        clear hc1 hc2
        have HS : Hid (allTo (aqQ an an' ty ty') (k + 1) = (aqQ an an' ty ty') k) := by show _ = _; rw [allTo, HK.out, Bool.true_and]
        have HD : Hid ((aqQ an an' ty ty') k = (decide (an k = an' k) && (ty k == ty' k))) := rfl
        have HL : Hid ((aqQ an an' ty ty') k = false → ve = false) := fun h => by rw [HE.out]; exact allTo_le (k := k + 1) (by rw [HS.out, h]) (by omega)
        generalize an k = an9 at *
        generalize an' k = an8 at *
        generalize ty k = ty9 at *
        generalize ty' k = ty8 at *
        by_cases g0 : an9 = an8
        · subst g0
          by_cases g1 : ty9 = ty8
          · subst g1
            have HR : Hid (allTo (aqQ an an' ty ty') (k + 1) = true) := by show _ = _; rw [HS.out, HD.out]; simp
            clear HS HD HL
            go_wp2
            go_quiet (fail)
            go_wp2
            go_roundw
            case rel => exact ⟨k + 1, by omega, by go_num, HR.out, drewB HBw.out _⟩
            case measure => simp [intOf]; omega
          · have HF : Hid (ve = false) := HL.out (by rw [HD.out]; simp [g1])
            clear HS HD HL
            go_wp2
            go_quiet (fail)
            go_wp2
            go_ret
            exact ⟨by rw [HF.out]; rfl, drewB HBw.out _⟩
        · have HF : Hid (ve = false) := HL.out (by rw [HD.out]; simp [g0])
          have e0 : ¬ an9.toList = an8.toList := fun h => g0 (str_eq (by rw [h]; simp))
          clear HS HD HL
          go_wp2
          go_quiet (fail)
          go_wp2
          go_ret
          exact ⟨by rw [HF.out]; rfl, drewB HBw.out _⟩
      · obtain rfl : k = n := by omega
        go_wp2
        go_ret
        exact ⟨by rw [HE.out, HK.out]; rfl, HBw.out⟩
  · have HE : Hid (ve = false) := by show _ = _; rw [← HV.out, sameA, beq_false_of_ne h0, Bool.false_and]
    have h1 : ((n : Int) != (m : Int)) = true := by rw [bne_iff_ne]; omega
    go_enter Tryz.func63, Tryz.ntmps63
    go_wp2
    go_ret
    exact ⟨by rw [HE.out]; rfl, Below.refl _ _⟩
set_option maxRecDepth 100000 in
set_option maxHeartbeats 2000000 in
theorem r_SameVals (w : World) (A B : Option Addr) (n c m d : Nat) (vk vk' : Nat → Int) (vn vn' : Nat → Int) (vd vd' : Nat → Int) (vs vs' : Nat → ByteArray) (ha : ValsAt w A n vk vn vd vs) (hb : ValsAt w B m vk' vn' vd' vs') (hn : n ≤ 1000000) (hm : m ≤ 1000000) :
    Calls Tryz.prog 117 #[.slice A n c, .slice B m d] w fun e w' => e = .returned (.bool (sameV n m vk vk' vn vn' vd vd' vs vs')) ∧ Below w.heap.size w w' := by
  have HA := Lib.hid ha
  have HB := Lib.hid hb
  obtain ⟨ve, hve⟩ : ∃ ve, sameV n m vk vk' vn vn' vd vd' vs vs' = ve := ⟨_, rfl⟩
  rw [hve]
  have HV := Lib.hid hve
  clear ha hb hve
  by_cases h0 : n = m
  · subst h0
    have HE : Hid (ve = allTo (vqQ vk vk' vn vn' vd vd' vs vs') n) := by show _ = _; rw [← HV.out, sameV, beq_self_eq_true, Bool.true_and]
    go_enter Tryz.func117, Tryz.ntmps117
    go_wp2
    go_loopw [5] (fun i wr => ∃ k : Nat, k ≤ n ∧ i = .int .i64 k ∧ Hid (allTo (vqQ vk vk' vn vn' vd vd' vs vs') k = true) ∧ Hid (Below w.heap.size w wr)) (fun i _ => n - (intOf i).toNat)
    case atStart => exact ⟨0, Nat.zero_le _, rfl, rfl, Below.refl _ _⟩
    case round =>
      obtain ⟨k, hk, rfl, HK, HBw⟩ := hrel
      by_cases hlt : k < n
      · obtain ⟨b1, o1, rfl, _, hc1⟩ := (HA.out.below HBw.out) (by omega)
        obtain ⟨x0, x1, x2, x3⟩ := hc1 k hlt
        obtain ⟨b2, o2, rfl, _, hc2⟩ := (HB.out.below HBw.out) (by omega)
        obtain ⟨y0, y1, y2, y3⟩ := hc2 k hlt
        clear hc1 hc2
        have HS : Hid (allTo (vqQ vk vk' vn vn' vd vd' vs vs') (k + 1) = (vqQ vk vk' vn vn' vd vd' vs vs') k) := by show _ = _; rw [allTo, HK.out, Bool.true_and]
        have HD : Hid ((vqQ vk vk' vn vn' vd vd' vs vs') k = (vk k == vk' k && (vn k == vn' k && (vd k == vd' k && (decide (vs k = vs' k)))))) := rfl
        have HL : Hid ((vqQ vk vk' vn vn' vd vd' vs vs') k = false → ve = false) := fun h => by rw [HE.out]; exact allTo_le (k := k + 1) (by rw [HS.out, h]) (by omega)
        generalize vk k = vk9 at *
        generalize vk' k = vk8 at *
        generalize vn k = vn9 at *
        generalize vn' k = vn8 at *
        generalize vd k = vd9 at *
        generalize vd' k = vd8 at *
        generalize vs k = vs9 at *
        generalize vs' k = vs8 at *
        by_cases g0 : vk9 = vk8
        · subst g0
          by_cases g1 : vn9 = vn8
          · subst g1
            by_cases g2 : vd9 = vd8
            · subst g2
              by_cases g3 : vs9 = vs8
              · subst g3
                have HR : Hid (allTo (vqQ vk vk' vn vn' vd vd' vs vs') (k + 1) = true) := by show _ = _; rw [HS.out, HD.out]; simp
                clear HS HD HL
                go_wp2
                go_quiet (fail)
                go_wp2
                go_roundw
                case rel => exact ⟨k + 1, by omega, by go_num, HR.out, drewB HBw.out _⟩
                case measure => simp [intOf]; omega
              · have HF : Hid (ve = false) := HL.out (by rw [HD.out]; simp [g3])
                have e3 : ¬ vs9.toList = vs8.toList := fun h => g3 (str_eq (by rw [h]; simp))
                clear HS HD HL
                go_wp2
                go_quiet (fail)
                go_wp2
                go_ret
                exact ⟨by rw [HF.out]; rfl, drewB HBw.out _⟩
            · have HF : Hid (ve = false) := HL.out (by rw [HD.out]; simp [g2])
              clear HS HD HL
              go_wp2
              go_quiet (fail)
              go_wp2
              go_ret
              exact ⟨by rw [HF.out]; rfl, drewB HBw.out _⟩
          · have HF : Hid (ve = false) := HL.out (by rw [HD.out]; simp [g1])
            clear HS HD HL
            go_wp2
            go_quiet (fail)
            go_wp2
            go_ret
            exact ⟨by rw [HF.out]; rfl, drewB HBw.out _⟩
        · have HF : Hid (ve = false) := HL.out (by rw [HD.out]; simp [g0])
          clear HS HD HL
          go_wp2
          go_quiet (fail)
          go_wp2
          go_ret
          exact ⟨by rw [HF.out]; rfl, drewB HBw.out _⟩
      · obtain rfl : k = n := by omega
        go_wp2
        go_ret
        exact ⟨by rw [HE.out, HK.out]; rfl, HBw.out⟩
  · have HE : Hid (ve = false) := by show _ = _; rw [← HV.out, sameV, beq_false_of_ne h0, Bool.false_and]
    have h1 : ((n : Int) != (m : Int)) = true := by rw [bne_iff_ne]; omega
    go_enter Tryz.func117, Tryz.ntmps117
    go_wp2
    go_ret
    exact ⟨by rw [HE.out]; rfl, Below.refl _ _⟩
end Go.Proofs.YtkckoanphciddaaGreatDoor
end

/- Slices of structs copied: their cells in a row. -/
section
namespace Go.Proofs.YtkckoanphciddaaGreatDoor
open Go Go.RowKit Go.Deep

/-- The cells of n structs of z cells each. -/
def rowL (f : Nat → Nat → Value) (z n : Nat) : List Value := (List.range (n * z)).map fun i => f (i / z) (i % z)
theorem rowL_len (f : Nat → Nat → Value) (z n : Nat) : (rowL f z n).length = n * z := by simp [rowL]
theorem rowL_get {f : Nat → Nat → Value} {z n j : Nat} {u : Value} (h : (rowL f z n)[j]? = some u) : j < n * z ∧ u = f (j / z) (j % z) := by
  obtain ⟨h1, h2⟩ := List.getElem?_eq_some_iff.1 h
  rw [rowL_len] at h1
  refine ⟨h1, ?_⟩
  rw [← h2]
  simp [rowL]
theorem rowL_one {f : Nat → Nat → Value} {z n : Nat} (hf : ∀ k r, (f k r).oneCell' = true) : ∀ u ∈ rowL f z n, u.oneCell' = true := by
  intro u hu
  obtain ⟨i, _, rfl⟩ := List.mem_map.1 hu
  exact hf _ _
/-- A slice that begins at the head of a block from B on. -/
def Up (B : Nat) (A : Option Addr) : Prop := ∀ a, A = some a → B ≤ a.block ∧ a.off = 0 ∧ a.spot = none
theorem Up.none (B : Nat) : Up B none := fun a h => by cases h
theorem Up.mono {B B' : Nat} {A : Option Addr} (h : Up B A) (hb : B' ≤ B) : Up B' A := fun a ha => ⟨Nat.le_trans hb (h a ha).1, (h a ha).2⟩
theorem row_own {w : World} {B e z n : Nat} {v : Value} {f : Nat → Nat → Value} (h : w.ownsRow B e z v n (rowL f z n)) :
    ∃ A cap, v = .slice A n cap ∧ Up B A ∧ (0 < n → ∃ b, A = some ⟨b, 0, none⟩ ∧ b < w.heap.size ∧ ∀ k r, k < n → r < z → w.cell? ⟨b, k * z + r, none⟩ = some (f k r)) := by
  rcases h.2 with ⟨rfl, rfl⟩ | ⟨g, cap, cur, rfl, hg, hh, hcap, _, hs, ht⟩
  · exact ⟨none, 0, rfl, Up.none _, fun h => absurd h (by omega)⟩
  · refine ⟨_, _, rfl, fun a ha => by injection ha with ha; subst ha; exact ⟨hg, rfl, rfl⟩, fun _ => ⟨g, rfl, (Array.getElem?_eq_some_iff.1 hh).1, fun k r hk hr => ?_⟩⟩
    have hj : k * z + r < n * z := by
      have : (k + 1) * z ≤ n * z := Nat.mul_le_mul_right _ hk
      rw [Nat.add_mul, Nat.one_mul] at this
      omega
    have h2 : cur.toList[k * z + r]? = some (f k r) := by
      rw [← List.getElem?_take_of_lt hj, ht]
      simp only [rowL, List.getElem?_map]
      rw [List.getElem?_range hj]
      have e1 : (k * z + r) / z = k := by rw [Nat.mul_comm, Nat.mul_add_div (by omega), Nat.div_eq_of_lt hr, Nat.add_zero]
      have e2 : (k * z + r) % z = r := by rw [Nat.mul_comm, Nat.mul_add_mod, Nat.mod_eq_of_lt hr]
      simp [e1, e2]
    rw [Array.getElem?_toList] at h2
    simp [World.cell?, hh, h2]
theorem div_row {z j n : Nat} (hz : 0 < z) (h : j < n * z) : j / z < n ∧ j % z < z ∧ j / z * z + j % z = j := by
  refine ⟨?_, Nat.mod_lt _ hz, by rw [Nat.mul_comm]; exact Nat.div_add_mod j z⟩
  exact Nat.div_lt_of_lt_mul (by rw [Nat.mul_comm]; exact h)
def intF (f : Nat → Int) (k _r : Nat) : Value := .int .i64 (f k)
def dimF (nm : Nat → ByteArray) (lo hi : Nat → Int) (k r : Nat) : Value := if r = 0 then .string (nm k) else if r = 1 then .int .i64 (lo k) else .int .i64 (hi k)
def attF (an : Nat → ByteArray) (ty : Nat → Int) (k r : Nat) : Value := if r = 0 then .string (an k) else .int .i64 (ty k)
def valF4 (vk vn vd : Nat → Int) (vs : Nat → ByteArray) (k r : Nat) : Value := if r = 0 then .int .i64 (vk k) else if r = 1 then .int .i64 (vn k) else if r = 2 then .int .i64 (vd k) else .string (vs k)
theorem intF_one (f : Nat → Int) (k r : Nat) : (intF f k r).oneCell' = true := rfl
theorem dimF_one (nm : Nat → ByteArray) (lo hi : Nat → Int) (k r : Nat) : (dimF nm lo hi k r).oneCell' = true := by
  unfold dimF
  split
  · rfl
  · split <;> rfl
theorem attF_one (an : Nat → ByteArray) (ty : Nat → Int) (k r : Nat) : (attF an ty k r).oneCell' = true := by unfold attF; split <;> rfl
theorem valF4_one (vk vn vd : Nat → Int) (vs : Nat → ByteArray) (k r : Nat) : (valF4 vk vn vd vs k r).oneCell' = true := by
  unfold valF4
  split
  · rfl
  · split
    · rfl
    · split <;> rfl
theorem r3 {r : Nat} (h : r < 3) : r = 0 ∨ r = 1 ∨ r = 2 := by omega
theorem r4 {r : Nat} (h : r < 4) : r = 0 ∨ r = 1 ∨ r = 2 ∨ r = 3 := by omega
/-- What the cells of a slice are, as a row. -/
def RowAt (w : World) (A : Option Addr) (n z : Nat) (f : Nat → Nat → Value) : Prop := 0 < n → ∃ b o, A = some ⟨b, o, none⟩ ∧ b < w.heap.size ∧ ∀ k r, k < n → r < z → w.cell? ⟨b, o + (k * z + r), none⟩ = some (f k r)
theorem RowAt.below {w w' : World} {A : Option Addr} {n z : Nat} {f : Nat → Nat → Value} (h : RowAt w A n z f) (hb : Below w.heap.size w w') : RowAt w' A n z f := fun hn => by
  obtain ⟨b, o, h1, h2, h3⟩ := h hn
  exact ⟨b, o, h1, Nat.lt_of_lt_of_le h2 hb.size, fun k r hk hr => (hb.cell (p := ⟨b, o + (k * z + r), none⟩) h2).trans (h3 k r hk hr)⟩
theorem IntsAt.row {w : World} {A : Option Addr} {n : Nat} {f : Nat → Int} (h : IntsAt w A n f) : RowAt w A n 1 (intF f) := fun hn => by
  obtain ⟨b, o, h1, h2, h3⟩ := h hn
  refine ⟨b, o, h1, h2, fun k r hk hr => ?_⟩
  obtain rfl : r = 0 := by omega
  rw [Nat.mul_one, Nat.add_zero]
  exact h3 k hk
theorem RowAt.ints {w : World} {A : Option Addr} {n : Nat} {f : Nat → Int} (h : RowAt w A n 1 (intF f)) : IntsAt w A n f := fun hn => by
  obtain ⟨b, o, h1, h2, h3⟩ := h hn
  refine ⟨b, o, h1, h2, fun k hk => ?_⟩
  have := h3 k 0 hk (by omega)
  rw [Nat.mul_one, Nat.add_zero] at this
  exact this
theorem DimsAt.row {w : World} {A : Option Addr} {n : Nat} {nm : Nat → ByteArray} {lo hi : Nat → Int} (h : DimsAt w A n nm lo hi) : RowAt w A n 3 (dimF nm lo hi) := fun hn => by
  obtain ⟨b, o, h1, h2, h3⟩ := h hn
  refine ⟨b, o, h1, h2, fun k r hk hr => ?_⟩
  obtain ⟨a0, a1, a2⟩ := h3 k hk
  rcases r3 hr with rfl | rfl | rfl
  · exact a0
  · exact a1
  · exact a2
theorem RowAt.dims {w : World} {A : Option Addr} {n : Nat} {nm : Nat → ByteArray} {lo hi : Nat → Int} (h : RowAt w A n 3 (dimF nm lo hi)) : DimsAt w A n nm lo hi := fun hn => by
  obtain ⟨b, o, h1, h2, h3⟩ := h hn
  exact ⟨b, o, h1, h2, fun k hk => ⟨h3 k 0 hk (by omega), h3 k 1 hk (by omega), h3 k 2 hk (by omega)⟩⟩
theorem AttrsAt.row {w : World} {A : Option Addr} {n : Nat} {an : Nat → ByteArray} {ty : Nat → Int} (h : AttrsAt w A n an ty) : RowAt w A n 2 (attF an ty) := fun hn => by
  obtain ⟨b, o, h1, h2, h3⟩ := h hn
  refine ⟨b, o, h1, h2, fun k r hk hr => ?_⟩
  obtain ⟨a0, a1⟩ := h3 k hk
  rcases (by omega : r = 0 ∨ r = 1) with rfl | rfl
  · exact a0
  · exact a1
theorem RowAt.attrs {w : World} {A : Option Addr} {n : Nat} {an : Nat → ByteArray} {ty : Nat → Int} (h : RowAt w A n 2 (attF an ty)) : AttrsAt w A n an ty := fun hn => by
  obtain ⟨b, o, h1, h2, h3⟩ := h hn
  exact ⟨b, o, h1, h2, fun k hk => ⟨h3 k 0 hk (by omega), h3 k 1 hk (by omega)⟩⟩
theorem ValsAt.row {w : World} {A : Option Addr} {n : Nat} {vk vn vd : Nat → Int} {vs : Nat → ByteArray} (h : ValsAt w A n vk vn vd vs) : RowAt w A n 4 (valF4 vk vn vd vs) := fun hn => by
  obtain ⟨b, o, h1, h2, h3⟩ := h hn
  refine ⟨b, o, h1, h2, fun k r hk hr => ?_⟩
  obtain ⟨a0, a1, a2, a3⟩ := h3 k hk
  rcases r4 hr with rfl | rfl | rfl | rfl
  · exact a0
  · exact a1
  · exact a2
  · exact a3
theorem RowAt.vals {w : World} {A : Option Addr} {n : Nat} {vk vn vd : Nat → Int} {vs : Nat → ByteArray} (h : RowAt w A n 4 (valF4 vk vn vd vs)) : ValsAt w A n vk vn vd vs := fun hn => by
  obtain ⟨b, o, h1, h2, h3⟩ := h hn
  exact ⟨b, o, h1, h2, fun k hk => ⟨h3 k 0 hk (by omega), h3 k 1 hk (by omega), h3 k 2 hk (by omega), h3 k 3 hk (by omega)⟩⟩
theorem RowAt.own {w : World} {B e z n : Nat} {v : Value} {f : Nat → Nat → Value} (h : w.ownsRow B e z v n (rowL f z n)) : ∃ A cap, v = .slice A n cap ∧ Up B A ∧ RowAt w A n z f := by
  obtain ⟨A, cap, h1, h2, h3⟩ := row_own h
  refine ⟨A, cap, h1, h2, fun hn => ?_⟩
  obtain ⟨b, e1, e2, e3⟩ := h3 hn
  exact ⟨b, 0, e1, e2, fun k r hk hr => by rw [Nat.zero_add]; exact e3 k r hk hr⟩
/-- What is read for an append: the cells of the slice. -/
theorem RowAt.news {w : World} {a : Addr} {n z : Nat} {f : Nat → Nat → Value} (hz : 0 < z) (h : RowAt w (some a) n z f) : ∀ j u, (rowL f z n)[j]? = some u → w.cell? (a.add j) = some u := by
  intro j u hu
  obtain ⟨h1, rfl⟩ := rowL_get hu
  obtain ⟨d1, d2, d3⟩ := div_row hz h1
  obtain ⟨b, o, e1, _, e3⟩ := h (Nat.lt_of_le_of_lt (Nat.zero_le _) d1)
  injection e1 with e1
  subst e1
  have := e3 (j / z) (j % z) d1 d2
  rw [d3] at this
  rw [Go.WideShapes.add_plain]
  exact this
end Go.Proofs.YtkckoanphciddaaGreatDoor
end

/- The library's Clone at slices of integers, dimensions, attributes and values. -/
section
namespace Go.Proofs.YtkckoanphciddaaGreatDoor
open Go Go.RowKit Go.Deep Go.Shelf

theorem info_clI : (Tryz.prog.info? 3).map (fun i => (i.zero, i.size, i.bytes)) = some (some (.int .i64 0), 1, 8) := by kernel_rfl
set_option maxRecDepth 100000 in
set_option maxHeartbeats 2000000 in
theorem c_CloneI (w : World) (A : Option Addr) (n c : Nat) (f : Nat → Int) (h : IntsAt w A n f) (hn : n ≤ 1000000) :
    Calls Tryz.prog 95 #[.slice A n c] w fun e w' => ∃ P cc, e = .returned (.slice P n cc) ∧ IntsAt w' P n f ∧ Up w.heap.size P ∧ Below w.heap.size w w' := by
  have HR := Lib.hid h.row
  have H0 : Hid (A = none → n = 0) := fun e => by
    rcases Nat.eq_zero_or_pos n with h0 | h0
    · exact h0
    · obtain ⟨b, o, h1, _⟩ := h h0
      rw [e] at h1; cases h1
  clear h
  obtain ⟨i0, hI9, hz0, hz1, hz2⟩ := info_parts info_clI
  have q1 : ∀ (w : World) (a : Option Addr) (n c n' c' : Nat), (binOp .eql 35 (.slice a n c) (.slice none n' c')).run Tryz.prog w = .ok (.bool a.isNone) w := fun w a n c n' c' => Lib.run_eql_slice_nil w _ _ a n c n' c' Tryz.underlying35
  cases A with
  | none =>
    obtain rfl := H0.out rfl
    have HN : Calls Tryz.prog 95 #[.slice none 0 c] w fun e w' => e = .returned (.slice none 0 0) ∧ w' = w := by
      clear HR
      go_enter Tryz.func95, Tryz.ntmps95
      go_wp2
      go_ret
      exact ⟨rfl, rfl⟩
    exact HN.mono fun e w' ⟨h1, h2⟩ => ⟨none, 0, h1, fun h => absurd h (by omega), Up.none _, by rw [h2]; exact Below.refl _ _⟩
  | some ad =>
    clear H0
    go_enter Tryz.func95, Tryz.ntmps95
    go_wp2_with (at_builtin; refine wpList_append_own _ rfl _ _ 35 rfl w.heap.size 3 i0 (.int .i64 0) 1 8 Tryz.underlying35 hI9 hz0 hz1 hz2 rfl (by decide) _ _ _ rfl (World.ownsRow_made w #[] 0 (Nat.le_refl _) (Nat.zero_le _) rfl) ad n c (rowL (intF f) 1 n) rfl ?qc1 ?qc2 ?qc3 ?qc4 ?qc5 ?qc6 ?_)
    case qc1 => rw [rowL_len]
    case qc2 => exact fun j u hj => Lib.cell?_alloc_some _ (HR.out.news (by decide) j u hj)
    case qc3 => exact rowL_one (intF_one f)
    case qc4 => unfold maxLen; omega
    case qc5 => omega
    case qc6 => simp
    intro v' w1 hown hgrow hnil
    go_wp2
    go_ret
    have hown2 : w1.ownsRow w.heap.size 3 1 v' n (rowL (intF f) 1 n) := by simpa using hown
    obtain ⟨P, cc, rfl, h1, h2⟩ := RowAt.own hown2
    exact ⟨P, cc, rfl, h2.ints, h1, ((Below.refl _ w).alloc (Nat.le_refl _) _).grown hgrow (by simp) (by intro k hk; simp [Value.ownBlock] at hk; omega)⟩
theorem info_clD : (Tryz.prog.info? 43).map (fun i => (i.zero, i.size, i.bytes)) = some (some (.agg #[.string ⟨#[]⟩, .int .i64 0, .int .i64 0]), 3, 32) := by kernel_rfl
set_option maxRecDepth 100000 in
set_option maxHeartbeats 2000000 in
theorem c_CloneD (w : World) (A : Option Addr) (n c : Nat) (nm : Nat → ByteArray) (lo hi : Nat → Int) (h : DimsAt w A n nm lo hi) (hn : n ≤ 1000000) :
    Calls Tryz.prog 114 #[.slice A n c] w fun e w' => ∃ P cc, e = .returned (.slice P n cc) ∧ DimsAt w' P n nm lo hi ∧ Up w.heap.size P ∧ Below w.heap.size w w' := by
  have HR := Lib.hid h.row
  have H0 : Hid (A = none → n = 0) := fun e => by
    rcases Nat.eq_zero_or_pos n with h0 | h0
    · exact h0
    · obtain ⟨b, o, h1, _⟩ := h h0
      rw [e] at h1; cases h1
  clear h
  obtain ⟨i0, hI9, hz0, hz1, hz2⟩ := info_parts info_clD
  have q1 : ∀ (w : World) (a : Option Addr) (n c n' c' : Nat), (binOp .eql 22 (.slice a n c) (.slice none n' c')).run Tryz.prog w = .ok (.bool a.isNone) w := fun w a n c n' c' => Lib.run_eql_slice_nil w _ _ a n c n' c' Tryz.underlying22
  cases A with
  | none =>
    obtain rfl := H0.out rfl
    have HN : Calls Tryz.prog 114 #[.slice none 0 c] w fun e w' => e = .returned (.slice none 0 0) ∧ w' = w := by
      clear HR
      go_enter Tryz.func114, Tryz.ntmps114
      go_wp2
      go_ret
      exact ⟨rfl, rfl⟩
    exact HN.mono fun e w' ⟨h1, h2⟩ => ⟨none, 0, h1, fun h => absurd h (by omega), Up.none _, by rw [h2]; exact Below.refl _ _⟩
  | some ad =>
    clear H0
    go_enter Tryz.func114, Tryz.ntmps114
    go_wp2_with (at_builtin; refine wpList_append_own _ rfl _ _ 22 rfl w.heap.size 43 i0 (.agg #[.string ⟨#[]⟩, .int .i64 0, .int .i64 0]) 3 32 Tryz.underlying22 hI9 hz0 hz1 hz2 rfl (by decide) _ _ _ rfl (World.ownsRow_made w #[] 0 (Nat.le_refl _) (Nat.zero_le _) rfl) ad n c (rowL (dimF nm lo hi) 3 n) rfl ?qc1 ?qc2 ?qc3 ?qc4 ?qc5 ?qc6 ?_)
    case qc1 => rw [rowL_len]
    case qc2 => exact fun j u hj => Lib.cell?_alloc_some _ (HR.out.news (by decide) j u hj)
    case qc3 => exact rowL_one (dimF_one nm lo hi)
    case qc4 => unfold maxLen; omega
    case qc5 => omega
    case qc6 => simp
    intro v' w1 hown hgrow hnil
    go_wp2
    go_ret
    have hown2 : w1.ownsRow w.heap.size 43 3 v' n (rowL (dimF nm lo hi) 3 n) := by simpa using hown
    obtain ⟨P, cc, rfl, h1, h2⟩ := RowAt.own hown2
    exact ⟨P, cc, rfl, h2.dims, h1, ((Below.refl _ w).alloc (Nat.le_refl _) _).grown hgrow (by simp) (by intro k hk; simp [Value.ownBlock] at hk; omega)⟩
theorem info_clA : (Tryz.prog.info? 45).map (fun i => (i.zero, i.size, i.bytes)) = some (some (.agg #[.string ⟨#[]⟩, .int .i64 0]), 2, 24) := by kernel_rfl
set_option maxRecDepth 100000 in
set_option maxHeartbeats 2000000 in
theorem c_CloneA (w : World) (A : Option Addr) (n c : Nat) (an : Nat → ByteArray) (ty : Nat → Int) (h : AttrsAt w A n an ty) (hn : n ≤ 1000000) :
    Calls Tryz.prog 115 #[.slice A n c] w fun e w' => ∃ P cc, e = .returned (.slice P n cc) ∧ AttrsAt w' P n an ty ∧ Up w.heap.size P ∧ Below w.heap.size w w' := by
  have HR := Lib.hid h.row
  have H0 : Hid (A = none → n = 0) := fun e => by
    rcases Nat.eq_zero_or_pos n with h0 | h0
    · exact h0
    · obtain ⟨b, o, h1, _⟩ := h h0
      rw [e] at h1; cases h1
  clear h
  obtain ⟨i0, hI9, hz0, hz1, hz2⟩ := info_parts info_clA
  have q1 : ∀ (w : World) (a : Option Addr) (n c n' c' : Nat), (binOp .eql 23 (.slice a n c) (.slice none n' c')).run Tryz.prog w = .ok (.bool a.isNone) w := fun w a n c n' c' => Lib.run_eql_slice_nil w _ _ a n c n' c' Tryz.underlying23
  cases A with
  | none =>
    obtain rfl := H0.out rfl
    have HN : Calls Tryz.prog 115 #[.slice none 0 c] w fun e w' => e = .returned (.slice none 0 0) ∧ w' = w := by
      clear HR
      go_enter Tryz.func115, Tryz.ntmps115
      go_wp2
      go_ret
      exact ⟨rfl, rfl⟩
    exact HN.mono fun e w' ⟨h1, h2⟩ => ⟨none, 0, h1, fun h => absurd h (by omega), Up.none _, by rw [h2]; exact Below.refl _ _⟩
  | some ad =>
    clear H0
    go_enter Tryz.func115, Tryz.ntmps115
    go_wp2_with (at_builtin; refine wpList_append_own _ rfl _ _ 23 rfl w.heap.size 45 i0 (.agg #[.string ⟨#[]⟩, .int .i64 0]) 2 24 Tryz.underlying23 hI9 hz0 hz1 hz2 rfl (by decide) _ _ _ rfl (World.ownsRow_made w #[] 0 (Nat.le_refl _) (Nat.zero_le _) rfl) ad n c (rowL (attF an ty) 2 n) rfl ?qc1 ?qc2 ?qc3 ?qc4 ?qc5 ?qc6 ?_)
    case qc1 => rw [rowL_len]
    case qc2 => exact fun j u hj => Lib.cell?_alloc_some _ (HR.out.news (by decide) j u hj)
    case qc3 => exact rowL_one (attF_one an ty)
    case qc4 => unfold maxLen; omega
    case qc5 => omega
    case qc6 => simp
    intro v' w1 hown hgrow hnil
    go_wp2
    go_ret
    have hown2 : w1.ownsRow w.heap.size 45 2 v' n (rowL (attF an ty) 2 n) := by simpa using hown
    obtain ⟨P, cc, rfl, h1, h2⟩ := RowAt.own hown2
    exact ⟨P, cc, rfl, h2.attrs, h1, ((Below.refl _ w).alloc (Nat.le_refl _) _).grown hgrow (by simp) (by intro k hk; simp [Value.ownBlock] at hk; omega)⟩
theorem info_clV : (Tryz.prog.info? 40).map (fun i => (i.zero, i.size, i.bytes)) = some (some (.agg #[.int .i64 0, .int .i64 0, .int .i64 0, .string ⟨#[]⟩]), 4, 40) := by kernel_rfl
set_option maxRecDepth 100000 in
set_option maxHeartbeats 2000000 in
theorem c_CloneV (w : World) (A : Option Addr) (n c : Nat) (vk vn vd : Nat → Int) (vs : Nat → ByteArray) (h : ValsAt w A n vk vn vd vs) (hn : n ≤ 1000000) :
    Calls Tryz.prog 116 #[.slice A n c] w fun e w' => ∃ P cc, e = .returned (.slice P n cc) ∧ ValsAt w' P n vk vn vd vs ∧ Up w.heap.size P ∧ Below w.heap.size w w' := by
  have HR := Lib.hid h.row
  have H0 : Hid (A = none → n = 0) := fun e => by
    rcases Nat.eq_zero_or_pos n with h0 | h0
    · exact h0
    · obtain ⟨b, o, h1, _⟩ := h h0
      rw [e] at h1; cases h1
  clear h
  obtain ⟨i0, hI9, hz0, hz1, hz2⟩ := info_parts info_clV
  have q1 : ∀ (w : World) (a : Option Addr) (n c n' c' : Nat), (binOp .eql 36 (.slice a n c) (.slice none n' c')).run Tryz.prog w = .ok (.bool a.isNone) w := fun w a n c n' c' => Lib.run_eql_slice_nil w _ _ a n c n' c' Tryz.underlying36
  cases A with
  | none =>
    obtain rfl := H0.out rfl
    have HN : Calls Tryz.prog 116 #[.slice none 0 c] w fun e w' => e = .returned (.slice none 0 0) ∧ w' = w := by
      clear HR
      go_enter Tryz.func116, Tryz.ntmps116
      go_wp2
      go_ret
      exact ⟨rfl, rfl⟩
    exact HN.mono fun e w' ⟨h1, h2⟩ => ⟨none, 0, h1, fun h => absurd h (by omega), Up.none _, by rw [h2]; exact Below.refl _ _⟩
  | some ad =>
    clear H0
    go_enter Tryz.func116, Tryz.ntmps116
    go_wp2_with (at_builtin; refine wpList_append_own _ rfl _ _ 36 rfl w.heap.size 40 i0 (.agg #[.int .i64 0, .int .i64 0, .int .i64 0, .string ⟨#[]⟩]) 4 40 Tryz.underlying36 hI9 hz0 hz1 hz2 rfl (by decide) _ _ _ rfl (World.ownsRow_made w #[] 0 (Nat.le_refl _) (Nat.zero_le _) rfl) ad n c (rowL (valF4 vk vn vd vs) 4 n) rfl ?qc1 ?qc2 ?qc3 ?qc4 ?qc5 ?qc6 ?_)
    case qc1 => rw [rowL_len]
    case qc2 => exact fun j u hj => Lib.cell?_alloc_some _ (HR.out.news (by decide) j u hj)
    case qc3 => exact rowL_one (valF4_one vk vn vd vs)
    case qc4 => unfold maxLen; omega
    case qc5 => omega
    case qc6 => simp
    intro v' w1 hown hgrow hnil
    go_wp2
    go_ret
    have hown2 : w1.ownsRow w.heap.size 40 4 v' n (rowL (valF4 vk vn vd vs) 4 n) := by simpa using hown
    obtain ⟨P, cc, rfl, h1, h2⟩ := RowAt.own hown2
    exact ⟨P, cc, rfl, h2.vals, h1, ((Below.refl _ w).alloc (Nat.le_refl _) _).grown hgrow (by simp) (by intro k hk; simp [Value.ownBlock] at hk; omega)⟩
end Go.Proofs.YtkckoanphciddaaGreatDoor
end

/- From the row's condition to the walk: a list of attributes. -/
section
namespace Go.Proofs.YtkckoanphciddaaGreatDoor
open Go Go.ChangeShapes Go.WideShapes Go.ChangeAt Go.RowKit

theorem attr_fields : ∃ f0 f1 : Field, Tryz.prog.underlying 45 = some (.struct #[f0, f1]) ∧ f0.type = 9 ∧ f0.offset = 0 ∧ f1.type = 3 ∧ f1.offset = 1 :=
  ⟨_, _, Tryz.underlying45, rfl, rfl, rfl, rfl⟩
section
variable {H : Type} {enc : TypeId × Value → H} {w : World} {base : Nat} {spare : Nat → Bool} {held : Bool}
theorem open_attr {fuel : Nat} {c0 c1 : Value} {x : DataW H × List MemPlace} (h : DataW.trod enc Tryz.prog w base spare held fuel 45 [c0, c1] = some x) :
    ∃ (s : ByteArray) (l : Int), c0 = .string s ∧ c1 = .int .i64 l ∧ s.size ≤ 9223372036854775807 ∧ IntKind.i64.wrap l = l := by
  obtain ⟨f0, f1, hu, t0, o0, t1, o1⟩ := attr_fields
  obtain ⟨xs, n, _, _, _, hlen, hf⟩ := DataW.trod_struct hu h
  have l0 : 0 < xs.length := by rw [hlen]; simp
  have l1 : 1 < xs.length := by rw [hlen]; simp
  have q0 := hf 0 f0 rfl
  have q1 := hf 1 f1 rfl
  have ci : Tryz.prog.cellsOf 3 = 1 := by kernel_rfl
  have cs : Tryz.prog.cellsOf 9 = 1 := by kernel_rfl
  rw [t0, o0, cs, List.getElem?_eq_getElem l0] at q0
  rw [t1, o1, ci, List.getElem?_eq_getElem l1] at q1
  obtain ⟨z0, e0, _, l9⟩ := DataW.trod_string Tryz.underlying9 q0
  obtain ⟨z1, e1, _, w1⟩ := DataW.trod_int Tryz.underlying3 q1
  exact ⟨z0, z1, by simpa using e0, by simpa using e1, l9, wf_w w1⟩

/-- The cells of a list of attributes. -/
theorem open_attrs {fuel : Nat} {A : Option Addr} {n cap : Nat} {x : DataW H × List MemPlace} (h : DataW.trod enc Tryz.prog w base spare held fuel 23 [.slice A n cap] = some x) :
    ∃ (nm : Nat → ByteArray) (ty : Nat → Int), AttrsAt w A n nm ty ∧ n ≤ 9223372036854775807 ∧ ∀ k, k < n → (nm k).size ≤ 9223372036854775807 ∧ IntKind.i64.wrap (ty k) = ty k := by
  have c3 : Tryz.prog.cellsOf 45 = 2 := by kernel_rfl
  rcases DataW.trod_slice Tryz.underlying23 h with ⟨h0, _⟩ | ⟨a, len, cap', elems, rest, m, _, hcs, _, hb, hl, hm, hlen, hel, hsp, hns⟩
  · obtain ⟨rfl, rfl, rfl⟩ : A = none ∧ n = 0 ∧ cap = 0 := by simpa using h0
    exact ⟨fun _ => ⟨#[]⟩, fun _ => 0, fun h9 => absurd h9 (by omega), by omega, fun _ h9 => absurd h9 (by omega)⟩
  · obtain ⟨rfl, rfl, rfl⟩ : A = some a ∧ n = len ∧ cap = cap' := by simpa using hcs
    have each : ∀ k, k < n → ∃ y : ByteArray × Int, w.cell? (a.add (k * 2)) = some (.string y.1) ∧ w.cell? ((a.add (k * 2)).add 1) = some (.int .i64 y.2) ∧ y.1.size ≤ 9223372036854775807 ∧ IntKind.i64.wrap y.2 = y.2 := by
      intro k hk
      have h1 := hel k hk
      have hk' : k < elems.length := by omega
      rw [c3, List.getElem?_eq_getElem hk', Option.bind_eq_some_iff] at h1
      obtain ⟨cs', hcs', hy⟩ := h1
      obtain ⟨_, hl2, hcell⟩ := World.cells?_some hcs'
      match cs', hl2 with
      | [c0, c1], _ =>
        obtain ⟨z0, z1, rfl, rfl, l9, w1⟩ := open_attr hy
        exact ⟨(z0, z1), by simpa [Addr.add] using hcell 0 (by omega), by simpa using hcell 1 (by omega), l9, w1⟩
    have pick : ∃ f : Nat → ByteArray × Int, ∀ k, k < n → w.cell? (a.add (k * 2)) = some (.string (f k).1) ∧ w.cell? ((a.add (k * 2)).add 1) = some (.int .i64 (f k).2) ∧ (f k).1.size ≤ 9223372036854775807 ∧ IntKind.i64.wrap (f k).2 = (f k).2 :=
      ⟨fun k => if hk : k < n then (each k hk).choose else (⟨#[]⟩, 0), fun k hk => by
        simp only [dif_pos hk]
        exact (each k hk).choose_spec⟩
    obtain ⟨f, hf⟩ := pick
    refine ⟨fun k => (f k).1, fun k => (f k).2, fun hn => ?_, ?_, fun k hk => (hf k hk).2.2⟩
    · obtain ⟨b, off, spot⟩ := a
      have hspot : spot = none := by simpa [Addr.add] using World.cell?_spot (hf 0 hn).1
      subst hspot
      refine ⟨b, off, rfl, ?_, fun k hk => ?_⟩
      · exact cell_lt (b := b) (o := off + 0 * 2) (by have := (hf 0 hn).1; rw [Go.WideShapes.add_plain] at this; exact this)
      · obtain ⟨q1, q2, _⟩ := hf k hk
        rw [Go.WideShapes.add_plain] at q1 q2
        rw [Go.WideShapes.add_plain] at q2
        exact ⟨q1, q2⟩
    · exact Nat.le_trans hl (Nat.le_trans hm (by decide))
set_option maxRecDepth 100000 in
theorem open_strA {r : Reach} {b0 : Nat} {v : Value} {dt : DataW H} {ps : List MemPlace} (hval : Value.okWide Tryz.prog w r b0 9 v) (hd : DataW.Trod enc Tryz.prog w base spare held 9 v dt ps) :
    ∃ s : ByteArray, v = .string s ∧ s.size ≤ 9223372036854775807 := by
  obtain ⟨s, rfl⟩ := okWide_string Tryz.underlying9 hval
  obtain ⟨fuel, hf⟩ := hd
  obtain ⟨s', e, _, hz⟩ := DataW.trod_string Tryz.underlying9 hf
  have e2 : s = s' := by simpa [Value.cells] using e
  exact ⟨s, rfl, by rw [e2]; exact hz⟩
end
end Go.Proofs.YtkckoanphciddaaGreatDoor
end
