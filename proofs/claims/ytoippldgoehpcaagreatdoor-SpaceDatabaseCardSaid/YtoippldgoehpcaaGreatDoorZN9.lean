/- Lists of dimensions, attributes and values compared: what is asked, and the reference. -/
import Derived.Test.YtoippldgoehpcaaGreatDoorZLS
import Derived.Test.YtoippldgoehpcaaGreatDoorZSch
import Derived.Test.YtoippldgoehpcaaGreatDoorZMathT
import Derived.Test.YtoippldgoehpcaaGreatDoorZCmpS
import Derived.Test.YtoippldgoehpcaaGreatDoorZSpH
import Derived.Test.YtoippldgoehpcaaGreatDoorZDiv
import Derived.Laws.AppendOwn
import Derived.Lib.AppendZeros

/- Lists of dimensions, attributes and values compared: what is asked, and the reference. -/
section
namespace Go.Proofs.YtoippldgoehpcaaGreatDoor
open Go Go.RowKit Go.Deep

/-- Do the first k have it? -/
def allTo (p : Nat → Bool) : Nat → Bool
  | 0 => true
  | k + 1 => allTo p k && p k
theorem allTo_le {p : Nat → Bool} {k n : Nat} (h : allTo p k = false) (hn : k ≤ n) : allTo p n = false := by
  induction n with
  | zero => obtain rfl : k = 0 := by omega
            exact h
  | succ n ih =>
    by_cases e : k = n + 1
    · rw [← e]; exact h
    · rw [allTo, ih (by omega)]; rfl
theorem allTo_iff {p : Nat → Bool} {n : Nat} : allTo p n = true ↔ ∀ k, k < n → p k = true := by
  induction n with
  | zero => simp [allTo]
  | succ n ih =>
    rw [allTo, Bool.and_eq_true, ih]
    constructor
    · rintro ⟨h1, h2⟩ k hk
      by_cases e : k = n
      · rw [e]; exact h2
      · exact h1 k (by omega)
    · exact fun h => ⟨fun k hk => h k (by omega), h n (by omega)⟩
def dqQ (nm nm' : Nat → ByteArray) (lo lo' : Nat → Int) (hi hi' : Nat → Int) (k : Nat) : Bool := decide (nm k = nm' k) && (lo k == lo' k && (hi k == hi' k))
def sameD (n n' : Nat) (nm nm' : Nat → ByteArray) (lo lo' : Nat → Int) (hi hi' : Nat → Int) : Bool := n == n' && allTo (dqQ nm nm' lo lo' hi hi') n
def aqQ (an an' : Nat → ByteArray) (ty ty' : Nat → Int) (k : Nat) : Bool := decide (an k = an' k) && (ty k == ty' k)
def sameA (n n' : Nat) (an an' : Nat → ByteArray) (ty ty' : Nat → Int) : Bool := n == n' && allTo (aqQ an an' ty ty') n
def vqQ (vk vk' : Nat → Int) (vn vn' : Nat → Int) (vd vd' : Nat → Int) (vs vs' : Nat → ByteArray) (k : Nat) : Bool := vk k == vk' k && (vn k == vn' k && (vd k == vd' k && (decide (vs k = vs' k))))
def sameV (n n' : Nat) (vk vk' : Nat → Int) (vn vn' : Nat → Int) (vd vd' : Nat → Int) (vs vs' : Nat → ByteArray) : Bool := n == n' && allTo (vqQ vk vk' vn vn' vd vd' vs vs') n
set_option maxRecDepth 100000 in
set_option maxHeartbeats 2000000 in
theorem r_SameDims (w : World) (A B : Option Addr) (n c m d : Nat) (nm nm' : Nat → ByteArray) (lo lo' : Nat → Int) (hi hi' : Nat → Int) (ha : DimsAt w A n nm lo hi) (hb : DimsAt w B m nm' lo' hi') (hn : n ≤ 1000000) (hm : m ≤ 1000000) :
    Calls Tryz.prog 81 #[.slice A n c, .slice B m d] w fun e w' => e = .returned (.bool (sameD n m nm nm' lo lo' hi hi')) ∧ Below w.heap.size w w' := by
  have HA := Lib.hid ha
  have HB := Lib.hid hb
  obtain ⟨ve, hve⟩ : ∃ ve, sameD n m nm nm' lo lo' hi hi' = ve := ⟨_, rfl⟩
  rw [hve]
  have HV := Lib.hid hve
  clear ha hb hve
  by_cases h0 : n = m
  · subst h0
    have HE : Hid (ve = allTo (dqQ nm nm' lo lo' hi hi') n) := by show _ = _; rw [← HV.out, sameD, beq_self_eq_true, Bool.true_and]
    go_enter Tryz.func81, Tryz.ntmps81
    go_wp2
    go_loopw [5] (fun i wr => ∃ k : Nat, k ≤ n ∧ i = .int .i64 k ∧ Hid (allTo (dqQ nm nm' lo lo' hi hi') k = true) ∧ Hid (Below w.heap.size w wr)) (fun i _ => n - (intOf i).toNat)
    case atStart => exact ⟨0, Nat.zero_le _, rfl, rfl, Below.refl _ _⟩
    case round =>
      obtain ⟨k, hk, rfl, HK, HBw⟩ := hrel
      by_cases hlt : k < n
      · obtain ⟨b1, o1, rfl, _, hc1⟩ := (HA.out.below HBw.out) (by omega)
        obtain ⟨x0, x1, x2⟩ := hc1 k hlt
        obtain ⟨b2, o2, rfl, _, hc2⟩ := (HB.out.below HBw.out) (by omega)
        obtain ⟨y0, y1, y2⟩ := hc2 k hlt
        clear hc1 hc2
        have HS : Hid (allTo (dqQ nm nm' lo lo' hi hi') (k + 1) = (dqQ nm nm' lo lo' hi hi') k) := by show _ = _; rw [allTo, HK.out, Bool.true_and]
        have HD : Hid ((dqQ nm nm' lo lo' hi hi') k = (decide (nm k = nm' k) && (lo k == lo' k && (hi k == hi' k)))) := rfl
        have HL : Hid ((dqQ nm nm' lo lo' hi hi') k = false → ve = false) := fun h => by rw [HE.out]; exact allTo_le (k := k + 1) (by rw [HS.out, h]) (by omega)
        generalize nm k = nm9 at *
        generalize nm' k = nm8 at *
        generalize lo k = lo9 at *
        generalize lo' k = lo8 at *
        generalize hi k = hi9 at *
        generalize hi' k = hi8 at *
        by_cases g0 : nm9 = nm8
        · subst g0
          by_cases g1 : lo9 = lo8
          · subst g1
            by_cases g2 : hi9 = hi8
            · subst g2
              have HR : Hid (allTo (dqQ nm nm' lo lo' hi hi') (k + 1) = true) := by show _ = _; rw [HS.out, HD.out]; simp
              clear HS HD HL
              go_wp2
              go_quiet (fail)
              go_wp2
              go_roundw
              case rel => exact ⟨k + 1, by omega, by go_num, HR.out, drewB HBw.out _⟩
              case measure => simp [intOf]; omega
            · have HF : Hid (ve = false) := HL.out (by rw [HD.out]; simp [g2])
              clear HS HD HL
              go_wp2
              go_quiet (fail)
              go_wp2
              go_ret
              exact ⟨by rw [HF.out]; rfl, drewB HBw.out _⟩
          · have HF : Hid (ve = false) := HL.out (by rw [HD.out]; simp [g1])
            clear HS HD HL
            go_wp2
            go_quiet (fail)
            go_wp2
            go_ret
            exact ⟨by rw [HF.out]; rfl, drewB HBw.out _⟩
        · have HF : Hid (ve = false) := HL.out (by rw [HD.out]; simp [g0])
          have e0 : ¬ nm9.toList = nm8.toList := fun h => g0 (str_eq (by rw [h]; simp))
          clear HS HD HL
          go_wp2
          go_quiet (fail)
          go_wp2
          go_ret
          exact ⟨by rw [HF.out]; rfl, drewB HBw.out _⟩
      · obtain rfl : k = n := by omega
        go_wp2
        go_ret
        exact ⟨by rw [HE.out, HK.out]; rfl, HBw.out⟩
  · have HE : Hid (ve = false) := by show _ = _; rw [← HV.out, sameD, beq_false_of_ne h0, Bool.false_and]
    have h1 : ((n : Int) != (m : Int)) = true := by rw [bne_iff_ne]; omega
    go_enter Tryz.func81, Tryz.ntmps81
    go_wp2
    go_ret
    exact ⟨by rw [HE.out]; rfl, Below.refl _ _⟩
set_option maxRecDepth 100000 in
set_option maxHeartbeats 2000000 in
theorem r_SameAttrs (w : World) (A B : Option Addr) (n c m d : Nat) (an an' : Nat → ByteArray) (ty ty' : Nat → Int) (ha : AttrsAt w A n an ty) (hb : AttrsAt w B m an' ty') (hn : n ≤ 1000000) (hm : m ≤ 1000000) :
    Calls Tryz.prog 82 #[.slice A n c, .slice B m d] w fun e w' => e = .returned (.bool (sameA n m an an' ty ty')) ∧ Below w.heap.size w w' := by
  have HA := Lib.hid ha
  have HB := Lib.hid hb
  obtain ⟨ve, hve⟩ : ∃ ve, sameA n m an an' ty ty' = ve := ⟨_, rfl⟩
  rw [hve]
  have HV := Lib.hid hve
  clear ha hb hve
  by_cases h0 : n = m
  · subst h0
    have HE : Hid (ve = allTo (aqQ an an' ty ty') n) := by show _ = _; rw [← HV.out, sameA, beq_self_eq_true, Bool.true_and]
    go_enter Tryz.func82, Tryz.ntmps82
    go_wp2
    go_loopw [5] (fun i wr => ∃ k : Nat, k ≤ n ∧ i = .int .i64 k ∧ Hid (allTo (aqQ an an' ty ty') k = true) ∧ Hid (Below w.heap.size w wr)) (fun i _ => n - (intOf i).toNat)
    case atStart => exact ⟨0, Nat.zero_le _, rfl, rfl, Below.refl _ _⟩
    case round =>
      obtain ⟨k, hk, rfl, HK, HBw⟩ := hrel
      by_cases hlt : k < n
      · obtain ⟨b1, o1, rfl, _, hc1⟩ := (HA.out.below HBw.out) (by omega)
        obtain ⟨x0, x1⟩ := hc1 k hlt
        obtain ⟨b2, o2, rfl, _, hc2⟩ := (HB.out.below HBw.out) (by omega)
        obtain ⟨y0, y1⟩ := hc2 k hlt
        clear hc1 hc2
        have HS : Hid (allTo (aqQ an an' ty ty') (k + 1) = (aqQ an an' ty ty') k) := by show _ = _; rw [allTo, HK.out, Bool.true_and]
        have HD : Hid ((aqQ an an' ty ty') k = (decide (an k = an' k) && (ty k == ty' k))) := rfl
        have HL : Hid ((aqQ an an' ty ty') k = false → ve = false) := fun h => by rw [HE.out]; exact allTo_le (k := k + 1) (by rw [HS.out, h]) (by omega)
        generalize an k = an9 at *
        generalize an' k = an8 at *
        generalize ty k = ty9 at *
        generalize ty' k = ty8 at *
        by_cases g0 : an9 = an8
        · subst g0
          by_cases g1 : ty9 = ty8
          · subst g1
            have HR : Hid (allTo (aqQ an an' ty ty') (k + 1) = true) := by show _ = _; rw [HS.out, HD.out]; simp
            clear HS HD HL
            go_wp2
            go_quiet (fail)
            go_wp2
            go_roundw
            case rel => exact ⟨k + 1, by omega, by go_num, HR.out, drewB HBw.out _⟩
            case measure => simp [intOf]; omega
          · have HF : Hid (ve = false) := HL.out (by rw [HD.out]; simp [g1])
            clear HS HD HL
            go_wp2
            go_quiet (fail)
            go_wp2
            go_ret
            exact ⟨by rw [HF.out]; rfl, drewB HBw.out _⟩
        · have HF : Hid (ve = false) := HL.out (by rw [HD.out]; simp [g0])
          have e0 : ¬ an9.toList = an8.toList := fun h => g0 (str_eq (by rw [h]; simp))
          clear HS HD HL
          go_wp2
          go_quiet (fail)
          go_wp2
          go_ret
          exact ⟨by rw [HF.out]; rfl, drewB HBw.out _⟩
      · obtain rfl : k = n := by omega
        go_wp2
        go_ret
        exact ⟨by rw [HE.out, HK.out]; rfl, HBw.out⟩
  · have HE : Hid (ve = false) := by show _ = _; rw [← HV.out, sameA, beq_false_of_ne h0, Bool.false_and]
    have h1 : ((n : Int) != (m : Int)) = true := by rw [bne_iff_ne]; omega
    go_enter Tryz.func82, Tryz.ntmps82
    go_wp2
    go_ret
    exact ⟨by rw [HE.out]; rfl, Below.refl _ _⟩
set_option maxRecDepth 100000 in
set_option maxHeartbeats 2000000 in
theorem r_SameVals (w : World) (A B : Option Addr) (n c m d : Nat) (vk vk' : Nat → Int) (vn vn' : Nat → Int) (vd vd' : Nat → Int) (vs vs' : Nat → ByteArray) (ha : ValsAt w A n vk vn vd vs) (hb : ValsAt w B m vk' vn' vd' vs') (hn : n ≤ 1000000) (hm : m ≤ 1000000) :
    Calls Tryz.prog 32 #[.slice A n c, .slice B m d] w fun e w' => e = .returned (.bool (sameV n m vk vk' vn vn' vd vd' vs vs')) ∧ Below w.heap.size w w' := by
  have HA := Lib.hid ha
  have HB := Lib.hid hb
  obtain ⟨ve, hve⟩ : ∃ ve, sameV n m vk vk' vn vn' vd vd' vs vs' = ve := ⟨_, rfl⟩
  rw [hve]
  have HV := Lib.hid hve
  clear ha hb hve
  by_cases h0 : n = m
  · subst h0
    have HE : Hid (ve = allTo (vqQ vk vk' vn vn' vd vd' vs vs') n) := by show _ = _; rw [← HV.out, sameV, beq_self_eq_true, Bool.true_and]
    go_enter Tryz.func32, Tryz.ntmps32
    go_wp2
    go_loopw [5] (fun i wr => ∃ k : Nat, k ≤ n ∧ i = .int .i64 k ∧ Hid (allTo (vqQ vk vk' vn vn' vd vd' vs vs') k = true) ∧ Hid (Below w.heap.size w wr)) (fun i _ => n - (intOf i).toNat)
    case atStart => exact ⟨0, Nat.zero_le _, rfl, rfl, Below.refl _ _⟩
    case round =>
      obtain ⟨k, hk, rfl, HK, HBw⟩ := hrel
      by_cases hlt : k < n
      · obtain ⟨b1, o1, rfl, _, hc1⟩ := (HA.out.below HBw.out) (by omega)
        obtain ⟨x0, x1, x2, x3⟩ := hc1 k hlt
        obtain ⟨b2, o2, rfl, _, hc2⟩ := (HB.out.below HBw.out) (by omega)
        obtain ⟨y0, y1, y2, y3⟩ := hc2 k hlt
        clear hc1 hc2
        have HS : Hid (allTo (vqQ vk vk' vn vn' vd vd' vs vs') (k + 1) = (vqQ vk vk' vn vn' vd vd' vs vs') k) := by show _ = _; rw [allTo, HK.out, Bool.true_and]
        have HD : Hid ((vqQ vk vk' vn vn' vd vd' vs vs') k = (vk k == vk' k && (vn k == vn' k && (vd k == vd' k && (decide (vs k = vs' k)))))) := rfl
        have HL : Hid ((vqQ vk vk' vn vn' vd vd' vs vs') k = false → ve = false) := fun h => by rw [HE.out]; exact allTo_le (k := k + 1) (by rw [HS.out, h]) (by omega)
        generalize vk k = vk9 at *
        generalize vk' k = vk8 at *
        generalize vn k = vn9 at *
        generalize vn' k = vn8 at *
        generalize vd k = vd9 at *
        generalize vd' k = vd8 at *
        generalize vs k = vs9 at *
        generalize vs' k = vs8 at *
        by_cases g0 : vk9 = vk8
        · subst g0
          by_cases g1 : vn9 = vn8
          · subst g1
            by_cases g2 : vd9 = vd8
            · subst g2
              by_cases g3 : vs9 = vs8
              · subst g3
                have HR : Hid (allTo (vqQ vk vk' vn vn' vd vd' vs vs') (k + 1) = true) := by show _ = _; rw [HS.out, HD.out]; simp
                clear HS HD HL
                go_wp2
                go_quiet (fail)
                go_wp2
                go_roundw
                case rel => exact ⟨k + 1, by omega, by go_num, HR.out, drewB HBw.out _⟩
                case measure => simp [intOf]; omega
              · have HF : Hid (ve = false) := HL.out (by rw [HD.out]; simp [g3])
                have e3 : ¬ vs9.toList = vs8.toList := fun h => g3 (str_eq (by rw [h]; simp))
                clear HS HD HL
                go_wp2
                go_quiet (fail)
                go_wp2
                go_ret
                exact ⟨by rw [HF.out]; rfl, drewB HBw.out _⟩
            · have HF : Hid (ve = false) := HL.out (by rw [HD.out]; simp [g2])
              clear HS HD HL
              go_wp2
              go_quiet (fail)
              go_wp2
              go_ret
              exact ⟨by rw [HF.out]; rfl, drewB HBw.out _⟩
          · have HF : Hid (ve = false) := HL.out (by rw [HD.out]; simp [g1])
            clear HS HD HL
            go_wp2
            go_quiet (fail)
            go_wp2
            go_ret
            exact ⟨by rw [HF.out]; rfl, drewB HBw.out _⟩
        · have HF : Hid (ve = false) := HL.out (by rw [HD.out]; simp [g0])
          clear HS HD HL
          go_wp2
          go_quiet (fail)
          go_wp2
          go_ret
          exact ⟨by rw [HF.out]; rfl, drewB HBw.out _⟩
      · obtain rfl : k = n := by omega
        go_wp2
        go_ret
        exact ⟨by rw [HE.out, HK.out]; rfl, HBw.out⟩
  · have HE : Hid (ve = false) := by show _ = _; rw [← HV.out, sameV, beq_false_of_ne h0, Bool.false_and]
    have h1 : ((n : Int) != (m : Int)) = true := by rw [bne_iff_ne]; omega
    go_enter Tryz.func32, Tryz.ntmps32
    go_wp2
    go_ret
    exact ⟨by rw [HE.out]; rfl, Below.refl _ _⟩
end Go.Proofs.YtoippldgoehpcaaGreatDoor
end

/- The reference's Of. -/
section
namespace Go.Proofs.YtoippldgoehpcaaGreatDoor
open Go Go.RowKit Go.Deep

def ofB (lo hi xs : Nat → Int) (n m : Nat) : Bool := n == m && inTo lo hi xs n
set_option maxRecDepth 100000 in
set_option maxHeartbeats 4000000 in
theorem r_Of (w : World) (A X : Option Addr) (n cap m cap' : Nat) (nm : Nat → ByteArray) (lo hi xs : Nat → Int) (hd : DimsAt w A n nm lo hi) (hx : IntsAt w X m xs) (hn : n ≤ 1000) (hm : m ≤ 1000) :
    Calls Tryz.prog 105 #[.slice A n cap, .slice X m cap'] w fun e w' => e = .returned (.bool (ofB lo hi xs n m)) ∧ Below w.heap.size w w' := by
  by_cases hnm : n = m
  · subst hnm
    have e1 : ofB lo hi xs n n = inTo lo hi xs n := by rw [ofB, beq_self_eq_true, Bool.true_and]
    rw [e1]
    clear e1
    have HD := Lib.hid hd
    have HX := Lib.hid hx
    have HL := Lib.hid r_Last
    clear hd hx
    go_enter Tryz.func105, Tryz.ntmps105
    go_wp2
    go_loopw [5] (fun i wr => ∃ k : Nat, k ≤ n ∧ i = .int .i64 k ∧ Hid (inTo lo hi xs k = true ∧ Below w.heap.size w wr)) (fun i _ => n - (intOf i).toNat)
    case atStart => exact ⟨0, Nat.zero_le _, rfl, rfl, Below.refl _ _⟩
    case round =>
      obtain ⟨k, hk, rfl, HK⟩ := hrel
      by_cases hlt : k < n
      · obtain ⟨bd, o, rfl, hbd, hc⟩ := (HD.out.below HK.out.2) (by omega)
        obtain ⟨c0, c1, c2⟩ := hc k hlt
        clear hc
        obtain ⟨bx, ox, rfl, hbx, hcx⟩ := (HX.out.below HK.out.2) (by omega)
        have x0 := hcx k hlt
        clear hcx
        have HS : Hid (inTo lo hi xs (k + 1) = (decide (lo k ≤ xs k) && decide (xs k ≤ lastZ (hi k)))) := by show _ = _; rw [inTo, HK.out.1]; rfl
        have HF : Hid ((decide (lo k ≤ xs k) && decide (xs k ≤ lastZ (hi k))) = false → inTo lo hi xs n = false) := fun h => inTo_le (k := k + 1) (by rw [HS.out, h]) (by omega)
        have HB := Lib.hid HK.out.2
        have HCC : Hid (∀ W, Below wr.heap.size wr W → W.cell? ⟨bx, ox + k, none⟩ = some (.int .i64 (xs k)) ∧ W.cell? ⟨bd, o + k * 3, none⟩ = some (.string (nm k)) ∧ W.cell? ⟨bd, o + k * 3 + 1, none⟩ = some (.int .i64 (lo k)) ∧ W.cell? ⟨bd, o + k * 3 + 2, none⟩ = some (.int .i64 (hi k))) := fun W hW =>
          ⟨(hW.cell (p := ⟨bx, ox + k, none⟩) hbx).trans x0, (hW.cell (p := ⟨bd, o + k * 3, none⟩) hbd).trans c0, (hW.cell (p := ⟨bd, o + k * 3 + 1, none⟩) hbd).trans c1, (hW.cell (p := ⟨bd, o + k * 3 + 2, none⟩) hbd).trans c2⟩
        have HLk := Lib.hid (fun W => HL.out (nm k) (lo k) (hi k) W)
        generalize nm k = s at *
        generalize lo k = l0 at *
        generalize hi k = h0 at *
        generalize xs k = z at *
        generalize lastZ h0 = L at *
        by_cases g1 : z < l0
        · have HR : Hid (inTo lo hi xs n = false) := HF.out (by rw [decide_eq_false (by omega)]; rfl)
          go_wp2
          go_quiet (fail)
          go_wp2
          go_ret
          exact ⟨by rw [HR.out]; rfl, drewB HB.out _⟩
        · have r1 : decide (z < l0) = ltC z l0 := rfl
          have a1 : ltC z l0 = false := decide_eq_false g1
          have r2 : decide (L < z) = ltC L z := rfl
          have B0d : Below wr.heap.size wr wr.drew := Below.drew (Below.refl _ _)
          by_cases g2 : L < z
          · have HR : Hid (inTo lo hi xs n = false) := HF.out (by rw [decide_eq_false (by omega : ¬ z ≤ L), Bool.and_false])
            have a2 : ltC L z = true := decide_eq_true g2
            go_wp2_with fail
            go_region_held3 (fun W => W.cell? ⟨bx, ox + k, none⟩ = some (.int .i64 z) ∧ W.cell? ⟨bd, o + k * 3, none⟩ = some (.string s) ∧ W.cell? ⟨bd, o + k * 3 + 1, none⟩ = some (.int .i64 l0) ∧ W.cell? ⟨bd, o + k * 3 + 2, none⟩ = some (.int .i64 h0))
              (first | exact HCC.out _ B1 | exact HCC.out _ B0d | exact HCC.out _ (Below.refl _ _))
              (first
                | (go_at_call 111; refine (HLk.out _).mono ?_; rintro e w1 ⟨rfl, hb1⟩; have B1 : Below wr.heap.size wr w1 := st B0d hb1))
            all_goals
              have HB1 : Hid (Below w.heap.size w w1) := st HB.out B1
              go_wp2
              go_ret
              exact ⟨by rw [HR.out]; rfl, HB1.out⟩
          · have HR : Hid (inTo lo hi xs (k + 1) = true) := by show _ = _; rw [HS.out, decide_eq_true (by omega : l0 ≤ z), decide_eq_true (by omega : z ≤ L)]; rfl
            have a2 : ltC L z = false := decide_eq_false g2
            go_wp2_with fail
            go_region_held3 (fun W => W.cell? ⟨bx, ox + k, none⟩ = some (.int .i64 z) ∧ W.cell? ⟨bd, o + k * 3, none⟩ = some (.string s) ∧ W.cell? ⟨bd, o + k * 3 + 1, none⟩ = some (.int .i64 l0) ∧ W.cell? ⟨bd, o + k * 3 + 2, none⟩ = some (.int .i64 h0))
              (first | exact HCC.out _ B1 | exact HCC.out _ B0d | exact HCC.out _ (Below.refl _ _))
              (first
                | (go_at_call 111; refine (HLk.out _).mono ?_; rintro e w1 ⟨rfl, hb1⟩; have B1 : Below wr.heap.size wr w1 := st B0d hb1))
            all_goals
              have HB1 : Hid (Below w.heap.size w w1) := st HB.out B1
              go_wp2
              go_roundw
              case rel => exact ⟨k + 1, by omega, by go_num, HR.out, HB1.out⟩
              case measure => simp [intOf]; omega
      · obtain rfl : k = n := by omega
        go_wp2
        go_ret
        exact ⟨by rw [HK.out.1]; rfl, HK.out.2⟩
  · have e1 : ofB lo hi xs n m = false := by rw [ofB, beq_false_of_ne hnm, Bool.false_and]
    have h1 : ((m : Int) != (n : Int)) = true := by rw [bne_iff_ne]; omega
    rw [e1]
    clear e1 hnm
    go_enter Tryz.func105, Tryz.ntmps105
    go_wp2
    go_ret
    exact ⟨rfl, Below.refl _ _⟩
end Go.Proofs.YtoippldgoehpcaaGreatDoor
end

/- Plain numbers: digits to the base 10^9, their values, and how many of them a natural number has. No condition. -/
section
namespace Go.Proofs.YtoippldgoehpcaaGreatDoor
def B9 : Nat := 1000000000
theorem B9_pos : 0 < B9 := by decide
theorem B9_pow_pos (k : Nat) : 0 < B9 ^ k := Nat.pow_pos B9_pos

/-- The word number k of x. -/
def dig9 (x k : Nat) : Nat := x / B9 ^ k % B9
/-- The value of the first n words. -/
def vl9 (g : Nat → Nat) : Nat → Nat
  | 0 => 0
  | n + 1 => vl9 g n + g n * B9 ^ n
/-- How many words x has. -/
def nw9 (x : Nat) : Nat := if x = 0 then 0 else nw9 (x / B9) + 1
termination_by x
decreasing_by exact Nat.div_lt_self (by omega) (by decide)

theorem dig_lt9 (x k : Nat) : dig9 x k < B9 := Nat.mod_lt _ B9_pos
theorem vl_succ9 (g : Nat → Nat) (n : Nat) : vl9 g (n + 1) = vl9 g n + g n * B9 ^ n := rfl
theorem vl_lt9 (g : Nat → Nat) (n : Nat) (h : ∀ k, k < n → g k < B9) : vl9 g n < B9 ^ n := by
  induction n with
  | zero => simp [vl9]
  | succ n ih =>
    have h1 := ih fun k hk => h k (by omega)
    have h2 := h n (by omega)
    rw [vl_succ9, Nat.pow_succ]
    have : g n * B9 ^ n ≤ (B9 - 1) * B9 ^ n := Nat.mul_le_mul_right _ (by omega)
    have e : (B9 - 1) * B9 ^ n + B9 ^ n = B9 ^ n * B9 := by
      rw [Nat.mul_comm (B9 ^ n) B9, ← Nat.succ_mul]; congr 1
    omega
theorem vl_congr9 (g f : Nat → Nat) (n : Nat) (h : ∀ k, k < n → g k = f k) : vl9 g n = vl9 f n := by
  induction n with
  | zero => rfl
  | succ n ih => rw [vl_succ9, vl_succ9, ih fun k hk => h k (by omega), h n (by omega)]
theorem vl_dig9 (x n : Nat) : vl9 (dig9 x) n = x % B9 ^ n := by
  induction n with
  | zero => simp [vl9, Nat.mod_one]
  | succ n ih =>
    rw [vl_succ9, ih]
    unfold dig9
    rw [Nat.pow_succ, Nat.mod_mul, Nat.mul_comm (x / B9 ^ n % B9)]
theorem vl_dig_lt9 (x n : Nat) (h : x < B9 ^ n) : vl9 (dig9 x) n = x := by rw [vl_dig9, Nat.mod_eq_of_lt h]
theorem dig_vl9 (g : Nat → Nat) (n : Nat) (h : ∀ k, k < n → g k < B9) (k : Nat) (hk : k < n) : dig9 (vl9 g n) k = g k := by
  induction n with
  | zero => omega
  | succ n ih =>
    have h1 := vl_lt9 g n fun k hk => h k (by omega)
    rw [vl_succ9]
    rcases Nat.lt_or_ge k n with hlt | hge
    · rw [← ih (fun k hk => h k (by omega)) hlt]
      unfold dig9
      have e : B9 ^ n = B9 ^ k * (B9 * B9 ^ (n - k - 1)) := by
        rw [← Nat.pow_succ', ← Nat.pow_add]; congr 1; omega
      have e2 : (vl9 g n + g n * B9 ^ n) / B9 ^ k = vl9 g n / B9 ^ k + B9 * (B9 ^ (n - k - 1) * g n) := by
        rw [e, show g n * (B9 ^ k * (B9 * B9 ^ (n - k - 1))) = B9 ^ k * (B9 * (B9 ^ (n - k - 1) * g n)) by
          rw [← Nat.mul_assoc, ← Nat.mul_assoc, Nat.mul_comm (g n), Nat.mul_assoc, Nat.mul_assoc, Nat.mul_comm (g n), Nat.mul_assoc]]
        exact Nat.add_mul_div_left _ _ (B9_pow_pos k)
      rw [e2, Nat.add_mul_mod_self_left]
    · have : k = n := by omega
      subst this
      unfold dig9
      rw [Nat.add_mul_div_right _ _ (B9_pow_pos k), Nat.div_eq_of_lt h1, Nat.zero_add, Nat.mod_eq_of_lt (h k (by omega))]
theorem nw_zero9 : nw9 0 = 0 := by rw [nw9]; rfl
theorem nw_step9 (x : Nat) (h : x ≠ 0) : nw9 x = nw9 (x / B9) + 1 := by rw [nw9, if_neg h]
theorem nw_le9 (x n : Nat) : nw9 x ≤ n ↔ x < B9 ^ n := by
  induction n generalizing x with
  | zero =>
    by_cases h : x = 0
    · subst h; simp [nw_zero9]
    · rw [nw_step9 x h]; simp; omega
  | succ n ih =>
    by_cases h : x = 0
    · subst h; simp [nw_zero9]; exact B9_pow_pos _
    · rw [nw_step9 x h, Nat.add_le_add_iff_right, ih, Nat.pow_succ, Nat.div_lt_iff_lt_mul B9_pos]
theorem lt_nw9 (x : Nat) : x < B9 ^ nw9 x := (nw_le9 x _).1 (Nat.le_refl _)
theorem nw_of9 (x n : Nat) (h1 : x < B9 ^ n) (h2 : n = 0 ∨ B9 ^ (n - 1) ≤ x) : nw9 x = n := by
  have a := (nw_le9 x n).2 h1
  rcases h2 with h2 | h2
  · omega
  · have b : ¬ nw9 x ≤ n - 1 := by rw [nw_le9]; omega
    omega
theorem nw_eq_zero9 (x : Nat) : nw9 x = 0 ↔ x = 0 := by
  have := nw_le9 x 0
  simp at this
  omega
theorem nw_pos9 (x : Nat) : 0 < nw9 x ↔ 0 < x := by have := nw_eq_zero9 x; omega
theorem nw_mono9 {x y : Nat} (h : x ≤ y) : nw9 x ≤ nw9 y := (nw_le9 x _).2 (Nat.lt_of_le_of_lt h (lt_nw9 y))
theorem lt_of_nw9 {x y : Nat} (h : nw9 x < nw9 y) : x < y := by
  rcases Nat.lt_or_ge x y with h1 | h1
  · exact h1
  · have := nw_mono9 h1; omega
theorem dig_ge9 (x n k : Nat) (h : x < B9 ^ n) (hk : n ≤ k) : dig9 x k = 0 := by
  unfold dig9
  have : B9 ^ n ≤ B9 ^ k := Nat.pow_le_pow_right B9_pos hk
  rw [Nat.div_eq_of_lt (by omega), Nat.zero_mod]
/-- x has fewer than n words if the last of n is 0. -/
theorem lt_pred9 (x n : Nat) (h : x < B9 ^ (n + 1)) (h0 : dig9 x n = 0) : x < B9 ^ n := by
  unfold dig9 at h0
  rw [Nat.pow_succ] at h
  have h3 : x / B9 ^ n < B9 := by rw [Nat.div_lt_iff_lt_mul (B9_pow_pos _), Nat.mul_comm]; exact h
  rw [Nat.mod_eq_of_lt h3] at h0
  rcases Nat.lt_or_ge x (B9 ^ n) with h4 | h4
  · exact h4
  · have := Nat.div_pos h4 (B9_pow_pos n); omega
theorem ge_of_dig9 (x n : Nat) (h0 : dig9 x n ≠ 0) : B9 ^ n ≤ x := by
  rcases Nat.lt_or_ge x (B9 ^ n) with h4 | h4
  · exact absurd (dig_ge9 x n n h4 (Nat.le_refl _)) h0
  · exact h4
theorem dig_zero9 (x : Nat) : dig9 x 0 = x % B9 := by simp [dig9]
theorem nw_le_one9 (x : Nat) : nw9 x ≤ 1 ↔ x < B9 := by rw [nw_le9, Nat.pow_one]
/-- The digits above agree: comparing by the next one. -/
theorem div_step9 (x n : Nat) : x / B9 ^ n = x / B9 ^ (n + 1) * B9 + dig9 x n := by
  unfold dig9
  rw [Nat.pow_succ, ← Nat.div_div_eq_div_mul, Nat.mul_comm, Nat.div_add_mod]
theorem lt_of_dig9 (x y n : Nat) (h : x / B9 ^ (n + 1) = y / B9 ^ (n + 1)) (hd : dig9 x n < dig9 y n) : x < y := by
  rcases Nat.lt_or_ge x y with h1 | h1
  · exact h1
  · have h2 : y / B9 ^ n ≤ x / B9 ^ n := Nat.div_le_div_right h1
    rw [div_step9 x n, div_step9 y n, h] at h2
    omega
theorem div_of_dig9 (x y n : Nat) (h : x / B9 ^ (n + 1) = y / B9 ^ (n + 1)) (hd : dig9 x n = dig9 y n) : x / B9 ^ n = y / B9 ^ n := by
  rw [div_step9 x n, div_step9 y n, h, hd]
theorem mod_div_mul9 (s P : Nat) : s % B9 * P + s / B9 * (P * B9) = s * P := by
  have h := Nat.div_add_mod s B9
  conv => rhs; rw [← h]
  generalize s / B9 = q; generalize s % B9 = r
  grind
end Go.Proofs.YtoippldgoehpcaaGreatDoor
end

/- Numbers of the reference: slices of digits to the base 10^9; their reading, and appending to a row of one's own. -/
section
namespace Go.Proofs.YtoippldgoehpcaaGreatDoor
open Go.RowKit Go.Deep

def lenV9 (v : Value) : Nat := match v with | .slice _ n _ => n | _ => 0
abbrev U9 (x : Nat) : Value := .int .u32 (x : Int)
theorem info_u32 : (Tryz.prog.info? 209).map (fun i => (i.zero, i.size, i.bytes)) = some (some (.int .u32 0), 1, 4) := by kernel_rfl

/-- A slice of n digits, digit k being g k; its block lies below B. -/
def D9 (w : World) (B : Nat) (A : Option Addr) (n : Nat) (g : Nat → Nat) : Prop :=
  0 < n → ∃ b o, A = some ⟨b, o, none⟩ ∧ b < B ∧ ∀ k, k < n → w.cell? ⟨b, o + k, none⟩ = some (U9 (g k))
theorem D9.zero {w : World} {B : Nat} {A : Option Addr} {g : Nat → Nat} : D9 w B A 0 g := fun h => absurd h (by omega)
theorem D9.at_ {w : World} {B : Nat} {A : Option Addr} {n k : Nat} {g : Nat → Nat} (h : D9 w B A n g) (hk : k < n) :
    ∃ b o, A = some ⟨b, o, none⟩ ∧ w.cell? ⟨b, o + k, none⟩ = some (U9 (g k)) := by
  obtain ⟨b, o, h1, _, h3⟩ := h (by omega)
  exact ⟨b, o, h1, h3 k hk⟩
theorem D9.below {w w' : World} {B : Nat} {A : Option Addr} {n : Nat} {g : Nat → Nat} (h : D9 w B A n g) (hb : Below B w w') : D9 w' B A n g := fun hn => by
  obtain ⟨b, o, h1, h2, h3⟩ := h hn
  exact ⟨b, o, h1, h2, fun k hk => (hb.cell (p := ⟨b, o + k, none⟩) h2).trans (h3 k hk)⟩
theorem D9.more {w : World} {B B' : Nat} {A : Option Addr} {n : Nat} {g : Nat → Nat} (h : D9 w B A n g) (hb : B ≤ B') : D9 w B' A n g := fun hn => by
  obtain ⟨b, o, h1, h2, h3⟩ := h hn
  exact ⟨b, o, h1, by omega, h3⟩
theorem D9.drewN {w : World} {B : Nat} {A : Option Addr} {n : Nat} {g : Nat → Nat} (h : D9 w B A n g) (m : Nat) : D9 (w.drewN m) B A n g := h
theorem D9.congr {w : World} {B : Nat} {A : Option Addr} {n : Nat} {g f : Nat → Nat} (h : D9 w B A n g) (e : ∀ k, k < n → g k = f k) : D9 w B A n f := fun hn => by
  obtain ⟨b, o, h1, h2, h3⟩ := h hn
  exact ⟨b, o, h1, h2, fun k hk => by rw [h3 k hk, e k hk]⟩
theorem D9.take {w : World} {B : Nat} {A : Option Addr} {n m : Nat} {g : Nat → Nat} (h : D9 w B A n g) (e : m ≤ n) : D9 w B A m g := fun hn => by
  obtain ⟨b, o, h1, h2, h3⟩ := h (by omega)
  exact ⟨b, o, h1, h2, fun k hk => h3 k (by omega)⟩
theorem D9.row {w : World} {b t n : Nat} {f : Nat → Value} {g : Nat → Nat} (h : w.rowIs b t n f) (e : ∀ k, k < n → f k = U9 (g k)) : D9 w w.heap.size (some ⟨b, 0, none⟩) n g := fun _ =>
  ⟨b, 0, rfl, h.lt, fun k hk => by rw [Nat.zero_add, h.cell hk, e k hk]⟩

/-- A row of the call's own with n digits. -/
def Own9 (w : World) (base : Nat) (v : Value) (n : Nat) (f : Nat → Nat) : Prop :=
  ∃ xs, w.ownsRow base 209 1 v n xs ∧ ∀ k, k < n → xs[k]? = some (U9 (f k))
theorem Own9.nil (w : World) (base : Nat) (f : Nat → Nat) : Own9 w base (.slice none 0 0) 0 f := ⟨[], World.ownsRow_nil _ _ _ _, fun _ h => absurd h (by omega)⟩
theorem Own9.out {w : World} {base n : Nat} {v : Value} {f : Nat → Nat} (h : Own9 w base v n f) : ∃ A c, v = .slice A n c ∧ n ≤ c ∧ c ≤ maxLen ∧ D9 w w.heap.size A n f := by
  obtain ⟨xs, h1, h2⟩ := h
  rcases h1.2 with ⟨rfl, rfl⟩ | ⟨g, cap, cur, rfl, _, hg, hnc, hcm, _, _⟩
  · exact ⟨none, 0, rfl, Nat.le_refl _, by decide, D9.zero⟩
  · refine ⟨_, cap, rfl, hnc, hcm, fun _ => ⟨g, 0, rfl, (Array.getElem?_eq_some_iff.1 hg).1, fun k hk => ?_⟩⟩
    have h3 := h1.cells (g := g) rfl k _ (h2 k hk)
    rw [Addr.add_lit, Nat.zero_add] at h3
    rw [Nat.zero_add]
    exact h3
theorem Own9.lo {w : World} {base n c : Nat} {A : Option Addr} {f : Nat → Nat} (h : Own9 w base (.slice A n c) n f) : ∀ a, A = some a → base ≤ a.block := by
  rintro a rfl
  obtain ⟨xs, h1, h2⟩ := h
  exact (h1.lt a.block rfl).1
theorem Own9.below {w w' : World} {base n : Nat} {v : Value} {f : Nat → Nat} (h : Own9 w base v n f) (hb : Below w.heap.size w w') : Own9 w' base v n f := by
  obtain ⟨xs, h1, h2⟩ := h
  refine ⟨xs, ⟨h1.1, ?_⟩, h2⟩
  rcases h1.2 with h3 | ⟨g, cap, cur, h3, h4, h5, h6⟩
  · exact .inl h3
  · exact .inr ⟨g, cap, cur, h3, h4, (hb.block g (Array.getElem?_eq_some_iff.1 h5).1).trans h5, h6⟩

/-- One digit more: the walk's append of a literal with one element, W being the world ahead of the literal. -/
theorem wpList_app9 {w : World} {ops : Array Oper} {rest : List Oper} {o : Oper} {a : Act} {Q : Exit → Act → World → Prop} (hgd : o.guard = none) (s x : Operand)
    (ho : o.op = .call { callee := .builtin .append, args := #[s, x], argTypes := #[226, 226] })
    (W : World) (u : Value) (d : Nat) (hw : w = W.alloc (.cells #[u] 209)) (hu : u = U9 d) (base : Nat) (v : Value) (n : Nat) (f : Nat → Nat) (hs : a.eval s = v) (hx : a.eval x = .slice (some ⟨W.heap.size, 0, none⟩) 1 1)
    (hown : Own9 W base v n f) (h63 : n < 10000000000) (hbase : base ≤ W.heap.size)
    (h : ∀ v' w', Own9 w' base v' (n + 1) (upd f n d) → Below base W w' → wpList Tryz.prog ops Q rest (a.put o.dst v') w') : wpList Tryz.prog ops Q (o :: rest) a w := by
  subst hu hw
  obtain ⟨xs, h1, h2⟩ := hown
  have h1' : (W.alloc (.cells #[U9 d] 209)).ownsRow base 209 1 v n xs := h1.alloc _
  obtain ⟨i0, hi, hii⟩ : ∃ i, Tryz.prog.info? 209 = some i ∧ (i.zero, i.size, i.bytes) = (some (.int .u32 0), 1, 4) := by
    have := info_u32
    rcases hc : Tryz.prog.info? 209 with _ | i
    · rw [hc] at this; cases this
    · rw [hc] at this; exact ⟨i, rfl, by simpa using this⟩
  simp only [Prod.mk.injEq] at hii
  have hnew : ∀ j u, [U9 d][j]? = some u → (W.alloc (.cells #[U9 d] 209)).cell? ((⟨W.heap.size, 0, none⟩ : Addr).add j) = some u := by
    intro j u hu
    have hj : j = 0 := by
      rcases j with _ | j
      · rfl
      · simp at hu
    subst hj
    have hu' : u = U9 d := by simpa using hu.symm
    subst hu'
    exact (World.rowIs_alloc W #[U9 d] 209 (fun _ => U9 d) (fun i hi => by
      have h9 : i = 0 := by simpa using hi
      subst h9
      rfl)).cell (i := 0) (by simp)
  refine wpList_append_own _ hgd s x 226 ho base 209 i0 (.int .u32 0) 1 4 Tryz.underlying226 hi hii.1 hii.2.1 hii.2.2 rfl Nat.zero_lt_one v n xs hs h1' ⟨W.heap.size, 0, none⟩ 1 1 [U9 d] hx rfl hnew
    (fun u hu => by have h9 : u = U9 d := by simpa using hu
                    subst h9; rfl) (by unfold maxLen; omega) (by omega) (by simp; omega) ?_
  intro v' w' g1 g2 _
  refine h v' w' ⟨xs ++ [U9 d], g1, fun k hk => ?_⟩ (((Below.refl base W).alloc hbase _).grown g2 (by simp; omega) fun k hk => (h1'.lt k hk).1)
  have hl : xs.length = n := by rw [h1.1, Nat.mul_one]
  by_cases hkn : k = n
  · subst hkn
    rw [upd_same, ← hl, List.getElem?_concat_length]
  · rw [upd_ne _ _ _ _ hkn, List.getElem?_append_left (by omega)]
    exact h2 k (by omega)

theorem append_none {P : Program} (w : World) (t ty e : TypeId) (i : TypeInfo) (ht : P.underlying t = some (.slice e)) (hi : P.info? e = some i) (a : Addr) (n cap c : Nat) (h : n ≤ cap) :
    (Builtin.append_ #[t, t] ty #[.slice (some a) n cap, .slice none 0 c]).run P w = .ok (.slice (some a) n cap) w := by
  simp [Builtin.append_, run_underlying ht, sizeOf, typeInfo, hi, Builtin.lenOf, Builtin.firstCells, loadCells, h, storeCells]

/-- A digit ahead of others: the walk's append of a slice to a literal with one element, W being the world ahead of the literal. -/
theorem wpList_cons9 {w : World} {ops : Array Oper} {rest : List Oper} {o : Oper} {a : Act} {Q : Exit → Act → World → Prop} (hgd : o.guard = none) (s x : Operand)
    (ho : o.op = .call { callee := .builtin .append, args := #[s, x], argTypes := #[226, 226] })
    (W : World) (u : Value) (d : Nat) (hw : w = W.alloc (.cells #[u] 209)) (hu : u = U9 d) (A : Option Addr) (m c : Nat) (g : Nat → Nat) (hs : a.eval s = .slice (some ⟨W.heap.size, 0, none⟩) 1 1) (hx : a.eval x = .slice A m c)
    (hD : D9 W W.heap.size A m g) (h63 : m < 10000000000)
    (h : ∀ v' w', Own9 w' W.heap.size v' (m + 1) (fun k => if k = 0 then d else g (k - 1)) → Below W.heap.size W w' → wpList Tryz.prog ops Q rest (a.put o.dst v') w') : wpList Tryz.prog ops Q (o :: rest) a w := by
  subst hu hw
  have h1 : (W.alloc (.cells #[U9 d] 209)).ownsRow W.heap.size 209 1 (.slice (some ⟨W.heap.size, 0, none⟩) 1 1) 1 [U9 d] :=
    ⟨rfl, .inr ⟨W.heap.size, 1, #[U9 d], rfl, Nat.le_refl _, heap_alloc_new W _, Nat.le_refl _, by decide, rfl, rfl⟩⟩
  obtain ⟨i0, hi, hii⟩ : ∃ i, Tryz.prog.info? 209 = some i ∧ (i.zero, i.size, i.bytes) = (some (.int .u32 0), 1, 4) := by
    have := info_u32
    rcases hc : Tryz.prog.info? 209 with _ | i
    · rw [hc] at this; cases this
    · rw [hc] at this; exact ⟨i, rfl, by simpa using this⟩
  simp only [Prod.mk.injEq] at hii
  have hB : Below W.heap.size W (W.alloc (.cells #[U9 d] 209)) := (Below.refl _ W).alloc (Nat.le_refl _) _
  rcases Nat.eq_zero_or_pos m with h0 | h0
  · subst h0
    rcases A with _ | A
    · refine Lib.wpList_append_run _ hgd s x 226 226 ho _ _ hs hx _ _ (append_none _ 226 _ 209 i0 Tryz.underlying226 hi _ 1 1 c (Nat.le_refl _)) ?_
      refine h _ _ ⟨_, h1, fun k hk => ?_⟩ hB
      obtain rfl : k = 0 := by omega
      rfl
    · refine wpList_append_own _ hgd s x 226 ho W.heap.size 209 i0 (.int .u32 0) 1 4 Tryz.underlying226 hi hii.1 hii.2.1 hii.2.2 rfl Nat.zero_lt_one _ 1 _ hs h1 A 0 c [] hx rfl (fun j u hj => by simp at hj)
        (fun u hu => by simp at hu) (by decide) (by decide) (by simp) ?_
      intro v' w' g1 g2 _
      refine h v' w' ⟨_, g1, fun k hk => ?_⟩ (hB.grown g2 (by simp) fun k hk => (h1.lt k hk).1)
      obtain rfl : k = 0 := by omega
      rfl
  · obtain ⟨b, o', rfl, hb, hc⟩ := hD h0
    have hlen : ((List.range m).map fun k => U9 (g k)).length = m * 1 := by simp
    refine wpList_append_own _ hgd s x 226 ho W.heap.size 209 i0 (.int .u32 0) 1 4 Tryz.underlying226 hi hii.1 hii.2.1 hii.2.2 rfl Nat.zero_lt_one _ 1 _ hs h1 ⟨b, o', none⟩ m c ((List.range m).map fun k => U9 (g k)) hx hlen
      (fun j u hj => ?_) (fun u hu => ?_) (by unfold maxLen; omega) (by omega) (by simp) ?_
    · rw [List.getElem?_map] at hj
      rcases Nat.lt_or_ge j m with hjm | hjm
      · rw [List.getElem?_range hjm] at hj
        simp only [Option.map_some, Option.some.injEq] at hj
        subst hj
        rw [Addr.add_lit]
        exact (hB.cell (p := ⟨b, o' + j, none⟩) hb).trans (hc j hjm)
      · rw [List.getElem?_eq_none (by simpa using hjm)] at hj
        simp at hj
    · simp only [List.mem_map] at hu
      obtain ⟨k, _, rfl⟩ := hu
      rfl
    · intro v' w' g1 g2 _
      rw [Nat.add_comm] at g1
      refine h v' w' ⟨_, g1, fun k hk => ?_⟩ (hB.grown g2 (by simp) fun k hk => (h1.lt k hk).1)
      rcases k with _ | k
      · rfl
      · have hkm : k < m := by omega
        show (((List.range m).map fun k => U9 (g k)))[k]? = _
        rw [List.getElem?_map, List.getElem?_range hkm]
        rfl

/-- The value v is a slice with the digits of x. -/
def N9At (w : World) (v : Value) (x : Nat) : Prop := ∃ A c, v = .slice A (nw9 x) c ∧ nw9 x ≤ c ∧ c ≤ 9223372036854775807 ∧ D9 w w.heap.size A (nw9 x) (dig9 x)
theorem N9At.below {w w' : World} {v : Value} {x : Nat} (h : N9At w v x) (hb : Below w.heap.size w w') : N9At w' v x := by
  obtain ⟨A, c, e, h1, h2, h3⟩ := h
  exact ⟨A, c, e, h1, h2, (h3.below hb).more hb.size⟩
theorem N9At.drewN {w : World} {v : Value} {x : Nat} (h : N9At w v x) (n : Nat) : N9At (w.drewN n) v x := h
/-- A call that returned a slice with the digits of x, in memory that existed or is new; what existed has not changed. -/
def Nat9 (x : Nat) (w : World) (e : Ending) (w' : World) : Prop := ∃ v, e = .returned v ∧ N9At w' v x ∧ Below w.heap.size w w'
theorem below_drewN {B : Nat} {a w : World} (h : Below B a w) (n : Nat) : Below B a (w.drewN n) := ⟨h.os, h.tape, h.output, h.size, h.block⟩

set_option maxHeartbeats 400000 in
theorem r_digit (w : World) (B : Nat) (A : Option Addr) (n c i : Nat) (g : Nat → Nat) (hg : ∀ k, g k < B9) (h : D9 w B A n g) :
    Calls Tryz.prog 261 #[.slice A n c, .int .i64 i] w fun e w' => e = .returned (U (if i < n then g i else 0)) ∧ w = w' := by
  by_cases hi : i < n
  · obtain ⟨b, o, rfl, hc⟩ := h.at_ hi
    rw [if_pos hi]
    have hgi := hg i
    clear h hg
    generalize g i = z at *
    go_enter Tryz.func261, Tryz.ntmps261
    go_wp2
    go_ret
    exact ⟨ret_i (by simp only [IntKind.wrap_u64] at *; unfold B9 at hgi; omega), rfl⟩
  · rw [if_neg hi]
    clear h
    go_enter Tryz.func261, Tryz.ntmps261
    go_wp2
    go_ret
    exact ⟨rfl, rfl⟩
theorem r_digitN (w : World) (v : Value) (i x : Nat) (h : N9At w v x) :
    Calls Tryz.prog 261 #[v, .int .i64 i] w fun e w' => e = .returned (U (dig9 x i)) ∧ w = w' := by
  obtain ⟨A, c, rfl, h1, h2, h3⟩ := h
  refine (r_digit w _ A _ c i _ (dig_lt9 x) h3).mono ?_
  rintro e w' ⟨rfl, rfl⟩
  refine ⟨ret_i ?_, rfl⟩
  by_cases hi : i < nw9 x
  · rw [if_pos hi]
  · rw [if_neg hi, dig_ge9 x _ i (lt_nw9 x) (by omega)]

set_option maxHeartbeats 400000 in
theorem r_trim (w : World) (B : Nat) (A : Option Addr) (m c x : Nat) (h : D9 w B A m (dig9 x)) (hx : x < B9 ^ m) (hm : m ≤ c) (hc : c ≤ 9223372036854775807) :
    Calls Tryz.prog 244 #[.slice A m c] w fun e w' => e = .returned (.slice A (nw9 x) c) ∧ w = w' := by
  have HN : Hid (nw9 x ≤ m) := (nw_le9 x m).2 hx
  clear hx
  go_enter Tryz.func244, Tryz.ntmps244
  go_wp2
  go_loop [0] (fun v => ∃ k : Nat, k ≤ m ∧ nw9 x ≤ k ∧ v = .slice A k c) (fun v => lenV9 v)
  case atStart => exact ⟨m, Nat.le_refl _, HN.out, rfl⟩
  case round =>
    obtain ⟨k, hk, hn, rfl⟩ := hrel
    by_cases h0 : k = 0
    · subst h0
      have hn0 : nw9 x = 0 := by omega
      have H := Lib.hid hn0
      clear hn hn0 h
      go_wp2
      go_ret
      exact ⟨by rw [H.out]; rfl, rfl⟩
    · obtain ⟨j, rfl⟩ : ∃ j, k = j + 1 := ⟨k - 1, by omega⟩
      obtain ⟨b, o, rfl, hcell⟩ := h.at_ (k := j) (by omega)
      by_cases hd : dig9 x j = 0
      · have HL : Hid (nw9 x ≤ j) := (nw_le9 x j).2 (lt_pred9 x j ((nw_le9 x (j + 1)).1 hn) hd)
        rw [hd] at hcell
        clear hd hn h
        go_wp2
        go_round
        case rel => exact ⟨j, by omega, HL.out, by go_num⟩
        case measure => simp [lenV9]
      · have he : nw9 x = j + 1 := nw_of9 x (j + 1) ((nw_le9 x (j + 1)).1 hn) (.inr (by simpa using ge_of_dig9 x j hd))
        have h2 : ((dig9 x j : Int) == 0) = false := by rw [beq_eq_false_iff_ne]; omega
        have H := Lib.hid he
        clear he hn h
        generalize dig9 x j = u at *
        go_wp2
        go_ret
        exact ⟨by rw [H.out]; rfl, rfl⟩
end Go.Proofs.YtoippldgoehpcaaGreatDoor
end
