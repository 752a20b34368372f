/- What the program and the reference say of chunks, errors and all. -/
import Derived.Test.YthmnmologmmeaaaGreatDoorZChF
import Derived.Test.YthmnmologmmeaaaGreatDoorZRfLa
import Derived.Test.YthmnmologmmeaaaGreatDoorZOwS
import Derived.Test.YthmnmologmmeaaaGreatDoorZRfLk
import Derived.Test.YthmnmologmmeaaaGreatDoorZWka
import Derived.Test.YthmnmologmmeaaaGreatDoorZSch

/- What the program and the reference say of chunks, errors and all. -/
section
namespace Go.Proofs.YthmnmologmmeaaaGreatDoor
open Go Go.RowKit Go.Deep

/-- A list, or an error. -/
def SaysI (w : World) (fn : Nat) (args : Array Value) (E : Int) (n : Nat) (g : Nat → Int) : Prop := Calls Tryz.prog fn args w fun e w' => ∃ P c, e = .returned (.tuple #[.slice P (if E = 0 then n else 0) c, .int .i64 E]) ∧ IntsAt w' P (if E = 0 then n else 0) g ∧ Below w.heap.size w w'
/-- Lists, or an error. -/
def SaysL (w : World) (fn : Nat) (args : Array Value) (E : Int) (N n : Nat) (g : Nat → Nat → Int) : Prop := Calls Tryz.prog fn args w fun e w' => ∃ P c, e = .returned (.tuple #[.slice P (if E = 0 then N else 0) c, .int .i64 E]) ∧ ListsAt w' P (if E = 0 then N else 0) (fun _ => n) g ∧ Below w.heap.size w w'
/-- A box, or an error. -/
def SaysB (w : World) (fn : Nat) (args : Array Value) (E : Int) (n : Nat) (g h : Nat → Int) : Prop := Calls Tryz.prog fn args w fun e w' => ∃ P Q c d, e = .returned (.tuple #[BoxW P Q (if E = 0 then n else 0) c (if E = 0 then n else 0) d, .int .i64 E]) ∧ IntsAt w' P (if E = 0 then n else 0) g ∧ IntsAt w' Q (if E = 0 then n else 0) h ∧ Below w.heap.size w w'
theorem lists_none (w : World) (n : Nat) (g : Nat → Nat → Int) : ListsAt w none 0 (fun _ => n) g := fun h => absurd h (by omega)
theorem u_Chunk (w : World) (A S O X : Option Addr) (n cap s sc o oc m mc : Nat) (nm : Nat → ByteArray) (lo hi sd ov xs : Nat → Int) (ord tile form codec : Int) (hd : DimsAt w A n nm lo hi) (hs : IntsAt w S s sd) (ho : IntsAt w O o ov) (hx : IntsAt w X m xs) (hs1 : s ≤ 1000) (ho1 : o ≤ 1000) (hn1 : n ≤ 1000) (hm1 : m ≤ 1000) : SaysI w 20 #[.slice A n cap, LayV S s sc O o oc ord tile form codec, .slice X m mc] (atE nm lo hi n sd ov s o ord tile form codec xs m) n (chZ lo sd xs) := by
  unfold SaysI
  by_cases h0 : atE nm lo hi n sd ov s o ord tile form codec xs m = 0
  · rw [h0, if_pos rfl]
    exact (s_Chunk w A S O X n cap s sc o oc m mc nm lo hi sd ov xs ord tile form codec hd hs ho hx hs1 ho1 hn1 hm1 h0).mono fun e w' ⟨b, h1, _, h2, h3⟩ => ⟨_, _, h1, ints_row h2, h3⟩
  · rw [if_neg h0]
    exact (s_Chunk_bad w A S O X n cap s sc o oc m mc nm lo hi sd ov xs ord tile form codec hd hs ho hx hs1 ho1 hn1 hm1 h0).mono fun e w' ⟨h1, h3⟩ => ⟨none, 0, h1, ints_none _ _, h3⟩
theorem v_Chunk (w : World) (A S O X : Option Addr) (n cap s sc o oc m mc : Nat) (nm : Nat → ByteArray) (lo hi sd ov xs : Nat → Int) (ord tile form codec : Int) (hd : DimsAt w A n nm lo hi) (hs : IntsAt w S s sd) (ho : IntsAt w O o ov) (hx : IntsAt w X m xs) (hns : ∀ k, k < n → (nm k).size ≤ 9223372036854775807) (hs1 : s ≤ 1000) (ho1 : o ≤ 1000) (hn1 : n ≤ 1000) (hm1 : m ≤ 1000) : SaysI w 21 #[.slice A n cap, LayV S s sc O o oc ord tile form codec, .slice X m mc] (atE nm lo hi n sd ov s o ord tile form codec xs m) n (chZ lo sd xs) := by
  unfold SaysI
  by_cases h0 : atE nm lo hi n sd ov s o ord tile form codec xs m = 0
  · rw [h0, if_pos rfl]
    exact (r_Chunk w A S O X n cap s sc o oc m mc nm lo hi sd ov xs ord tile form codec hd hs ho hx hns hs1 ho1 hn1 hm1 h0).mono fun e w' ⟨P, c, h1, h2, h3⟩ => ⟨_, _, h1, h2, h3⟩
  · rw [if_neg h0]
    exact (r_Chunk_bad w A S O X n cap s sc o oc m mc nm lo hi sd ov xs ord tile form codec hd hs ho hx hns hs1 ho1 hn1 hm1 h0).mono fun e w' ⟨h1, h3⟩ => ⟨none, 0, h1, ints_none _ _, h3⟩
theorem u_Homes (w : World) (A S O X : Option Addr) (n cap s sc o oc m mc : Nat) (nm : Nat → ByteArray) (lo hi sd ov xs : Nat → Int) (ord tile form codec : Int) (hd : DimsAt w A n nm lo hi) (hs : IntsAt w S s sd) (ho : IntsAt w O o ov) (hx : IntsAt w X m xs) (hs1 : s ≤ 1000) (ho1 : o ≤ 1000) (hn1 : n ≤ 1000) (hm1 : m ≤ 1000) : SaysL w 22 #[.slice A n cap, LayV S s sc O o oc ord tile form codec, .slice X m mc] (atE nm lo hi n sd ov s o ord tile form codec xs m) (volC (homeN lo hi sd ov xs) n 0) n (fun t => crdZ (homeLo lo sd ov xs) (homeN lo hi sd ov xs) n t) := by
  unfold SaysL
  by_cases h0 : atE nm lo hi n sd ov s o ord tile form codec xs m = 0
  · rw [h0, if_pos rfl]
    exact h_Homes w A S O X n cap s sc o oc m mc nm lo hi sd ov xs ord tile form codec hd hs ho hx hs1 ho1 hn1 hm1 h0
  · rw [if_neg h0]
    exact (s_Homes_bad w A S O X n cap s sc o oc m mc nm lo hi sd ov xs ord tile form codec hd hs ho hx hs1 ho1 hn1 hm1 h0).mono fun e w' ⟨h1, h3⟩ => ⟨none, 0, h1, lists_none _ _ _, h3⟩
theorem v_Homes (w : World) (A S O X : Option Addr) (n cap s sc o oc m mc : Nat) (nm : Nat → ByteArray) (lo hi sd ov xs : Nat → Int) (ord tile form codec : Int) (hd : DimsAt w A n nm lo hi) (hs : IntsAt w S s sd) (ho : IntsAt w O o ov) (hx : IntsAt w X m xs) (hns : ∀ k, k < n → (nm k).size ≤ 9223372036854775807) (hs1 : s ≤ 1000) (ho1 : o ≤ 1000) (hn1 : n ≤ 1000) (hm1 : m ≤ 1000) : SaysL w 23 #[.slice A n cap, LayV S s sc O o oc ord tile form codec, .slice X m mc] (atE nm lo hi n sd ov s o ord tile form codec xs m) (volC (homeN lo hi sd ov xs) n 0) n (fun t => crdZ (homeLo lo sd ov xs) (homeN lo hi sd ov xs) n t) := by
  unfold SaysL
  by_cases h0 : atE nm lo hi n sd ov s o ord tile form codec xs m = 0
  · rw [h0, if_pos rfl]
    exact r_Homes w A S O X n cap s sc o oc m mc nm lo hi sd ov xs ord tile form codec hd hs ho hx hns hs1 ho1 hn1 hm1 h0
  · rw [if_neg h0]
    exact (r_Homes_bad w A S O X n cap s sc o oc m mc nm lo hi sd ov xs ord tile form codec hd hs ho hx hns hs1 ho1 hn1 hm1 h0).mono fun e w' ⟨h1, h3⟩ => ⟨none, 0, h1, lists_none _ _ _, h3⟩
theorem u_Core (w : World) (A S O X : Option Addr) (n cap s sc o oc m mc : Nat) (nm : Nat → ByteArray) (lo hi sd ov xs : Nat → Int) (ord tile form codec : Int) (hd : DimsAt w A n nm lo hi) (hs : IntsAt w S s sd) (ho : IntsAt w O o ov) (hx : IntsAt w X m xs) (hs1 : s ≤ 1000) (ho1 : o ≤ 1000) (hn1 : n ≤ 1000) (hm1 : m ≤ 1000) : SaysB w 26 #[.slice A n cap, LayV S s sc O o oc ord tile form codec, .slice X m mc] (coreE nm lo hi n sd ov s o ord tile form codec xs m) n (coreLo lo sd xs) (coreHi lo hi sd xs) := by
  unfold SaysB
  by_cases h0 : coreE nm lo hi n sd ov s o ord tile form codec xs m = 0
  · rw [h0, if_pos rfl]
    exact (s_Core w A S O X n cap s sc o oc m mc nm lo hi sd ov xs ord tile form codec hd hs ho hx hs1 ho1 hn1 hm1 h0).mono fun e w' ⟨b, b2, h1, _, _, _, h2, h3, h4⟩ => ⟨_, _, _, _, h1, ints_row h2, ints_row h3, h4⟩
  · rw [if_neg h0]
    exact (s_Core_err w A S O X n cap s sc o oc m mc nm lo hi sd ov xs ord tile form codec hd hs ho hx hs1 ho1 hn1 hm1 h0).mono fun e w' ⟨h1, h3⟩ => ⟨none, none, 0, 0, h1, ints_none _ _, ints_none _ _, h3⟩
theorem v_Core (w : World) (A S O X : Option Addr) (n cap s sc o oc m mc : Nat) (nm : Nat → ByteArray) (lo hi sd ov xs : Nat → Int) (ord tile form codec : Int) (hd : DimsAt w A n nm lo hi) (hs : IntsAt w S s sd) (ho : IntsAt w O o ov) (hx : IntsAt w X m xs) (hns : ∀ k, k < n → (nm k).size ≤ 9223372036854775807) (hs1 : s ≤ 1000) (ho1 : o ≤ 1000) (hn1 : n ≤ 1000) (hm1 : m ≤ 1000) : SaysB w 27 #[.slice A n cap, LayV S s sc O o oc ord tile form codec, .slice X m mc] (coreE nm lo hi n sd ov s o ord tile form codec xs m) n (coreLo lo sd xs) (coreHi lo hi sd xs) := by
  unfold SaysB
  by_cases h0 : coreE nm lo hi n sd ov s o ord tile form codec xs m = 0
  · rw [h0, if_pos rfl]
    exact (r_Core w A S O X n cap s sc o oc m mc nm lo hi sd ov xs ord tile form codec hd hs ho hx hns hs1 ho1 hn1 hm1 h0).mono fun e w' ⟨P, Q, c, d, h1, h2, h3, _, h4⟩ => ⟨_, _, _, _, h1, h2.ints', h3.ints', h4⟩
  · rw [if_neg h0]
    exact (r_Core_err w A S O X n cap s sc o oc m mc nm lo hi sd ov xs ord tile form codec hd hs ho hx hns hs1 ho1 hn1 hm1 h0).mono fun e w' ⟨h1, h3⟩ => ⟨none, none, 0, 0, h1, ints_none _ _, ints_none _ _, h3⟩
theorem u_Wide (w : World) (A S O X : Option Addr) (n cap s sc o oc m mc : Nat) (nm : Nat → ByteArray) (lo hi sd ov xs : Nat → Int) (ord tile form codec : Int) (hd : DimsAt w A n nm lo hi) (hs : IntsAt w S s sd) (ho : IntsAt w O o ov) (hx : IntsAt w X m xs) (hs1 : s ≤ 1000) (ho1 : o ≤ 1000) (hn1 : n ≤ 1000) (hm1 : m ≤ 1000) : SaysB w 28 #[.slice A n cap, LayV S s sc O o oc ord tile form codec, .slice X m mc] (coreE nm lo hi n sd ov s o ord tile form codec xs m) n (wideLo lo sd ov xs) (wideHi lo hi sd ov xs) := by
  unfold SaysB
  by_cases h0 : coreE nm lo hi n sd ov s o ord tile form codec xs m = 0
  · rw [h0, if_pos rfl]
    exact (s_Wide w A S O X n cap s sc o oc m mc nm lo hi sd ov xs ord tile form codec hd hs ho hx hs1 ho1 hn1 hm1 h0).mono fun e w' ⟨b, b2, h1, _, _, _, h2, h3, h4⟩ => ⟨_, _, _, _, h1, ints_row h2, ints_row h3, h4⟩
  · rw [if_neg h0]
    exact (s_Wide_err w A S O X n cap s sc o oc m mc nm lo hi sd ov xs ord tile form codec hd hs ho hx hs1 ho1 hn1 hm1 h0).mono fun e w' ⟨h1, h3⟩ => ⟨none, none, 0, 0, h1, ints_none _ _, ints_none _ _, h3⟩
theorem v_Wide (w : World) (A S O X : Option Addr) (n cap s sc o oc m mc : Nat) (nm : Nat → ByteArray) (lo hi sd ov xs : Nat → Int) (ord tile form codec : Int) (hd : DimsAt w A n nm lo hi) (hs : IntsAt w S s sd) (ho : IntsAt w O o ov) (hx : IntsAt w X m xs) (hns : ∀ k, k < n → (nm k).size ≤ 9223372036854775807) (hs1 : s ≤ 1000) (ho1 : o ≤ 1000) (hn1 : n ≤ 1000) (hm1 : m ≤ 1000) : SaysB w 29 #[.slice A n cap, LayV S s sc O o oc ord tile form codec, .slice X m mc] (coreE nm lo hi n sd ov s o ord tile form codec xs m) n (wideLo lo sd ov xs) (wideHi lo hi sd ov xs) := by
  unfold SaysB
  by_cases h0 : coreE nm lo hi n sd ov s o ord tile form codec xs m = 0
  · rw [h0, if_pos rfl]
    exact (r_Wide w A S O X n cap s sc o oc m mc nm lo hi sd ov xs ord tile form codec hd hs ho hx hns hs1 ho1 hn1 hm1 h0).mono fun e w' ⟨P, Q, c, d, h1, h2, h3, h4⟩ => ⟨_, _, _, _, h1, h2, h3, h4⟩
  · rw [if_neg h0]
    exact (r_Wide_bad w A S O X n cap s sc o oc m mc nm lo hi sd ov xs ord tile form codec hd hs ho hx hns hs1 ho1 hn1 hm1 h0).mono fun e w' ⟨h1, h3⟩ => ⟨none, none, 0, 0, h1, ints_none _ _, ints_none _ _, h3⟩
end Go.Proofs.YthmnmologmmeaaaGreatDoor
end

/- What the laws examine: the sizes of schemas. -/
section
namespace Go.Proofs.YthmnmologmmeaaaGreatDoor
open Go Go.RowKit Go.Deep

set_option maxHeartbeats 1000000 in
theorem l_short (s : ByteArray) (hs : s.size ≤ 9223372036854775807) (w : World) : Calls Tryz.prog 36 #[.string s] w fun e w' => e = .returned (.bool (decide (s.size ≤ 40))) ∧ w' = w := by
  have e1 : decide (s.size ≤ 40) = decide ((s.size : Int) ≤ 40) := by
    by_cases h : s.size ≤ 40
    · rw [decide_eq_true h, decide_eq_true (by omega)]
    · rw [decide_eq_false h, decide_eq_false (by omega)]
  rw [e1]
  go_enter Tryz.func36, Tryz.ntmps36
  go_wp2
  go_ret
  exact ⟨rfl, rfl⟩

set_option maxRecDepth 100000 in
set_option maxHeartbeats 4000000 in
/-- schema of dimensions alone. -/
theorem l_schema (w : World) (A : Option Addr) (n cap : Nat) (nm : Nat → ByteArray) (lo hi : Nat → Int) (hd : DimsAt w A n nm lo hi) (hs : ∀ k, k < n → (nm k).size ≤ 9223372036854775807) (hn : n ≤ 9223372036854775807) :
    Calls Tryz.prog 7 #[.slice A n cap, .slice none 0 0] w fun e w' => ∃ b : Bool, e = .returned (.bool b) ∧ (b = true → n ≤ 10) ∧ Below w.heap.size w w' := by
  have HD := Lib.hid hd
  have HS := Lib.hid hs
  have HL := Lib.hid l_short
  clear hd hs
  go_enter Tryz.func7, Tryz.ntmps7
  by_cases h0 : (n : Int) > 10
  · go_wp2
    go_ret
    exact ⟨false, rfl, (fun h => by cases h), Below.refl _ _⟩
  · go_wp2
    go_loopw [5] (fun i wr => ∃ k : Nat, k ≤ n ∧ i = .int .i64 k ∧ Hid (Below w.heap.size w wr)) (fun i _ => n - (intOf i).toNat)
    case atStart => exact ⟨0, Nat.zero_le _, rfl, Below.refl _ _⟩
    case round =>
      obtain ⟨k, hk, rfl, HB⟩ := hrel
      by_cases hlt : k < n
      · obtain ⟨bd, o, rfl, _, hc⟩ := (HD.out.below HB.out) (by omega)
        obtain ⟨c0, c1, c2⟩ := hc k hlt
        clear hc
        have HSk := Lib.hid (HL.out (nm k) (HS.out k hlt))
        generalize nm k = s at *
        generalize lo k = l0 at *
        generalize hi k = h0 at *
        by_cases h5 : s.size ≤ 40
        · rw [decide_eq_true h5] at HSk
          clear h5
          go_wp2_with fail
          refine (HSk.out _).mono ?_
          rintro e w1 ⟨rfl, rfl⟩
          go_wp2
          go_roundw
          case rel => exact ⟨k + 1, by omega, by go_num, HB.out⟩
          case measure => simp [intOf]; omega
        · rw [decide_eq_false h5] at HSk
          clear h5
          go_wp2_with fail
          refine (HSk.out _).mono ?_
          rintro e w1 ⟨rfl, rfl⟩
          go_wp2
          go_ret
          exact ⟨false, rfl, (fun h => by cases h), HB.out⟩
      · obtain rfl : k = n := by omega
        go_wp2
        go_loopw [6] (fun i wr => i = .int .i64 0 ∧ Hid (Below w.heap.size w wr)) (fun _ _ => 0)
        case atStart => exact ⟨rfl, HB.out⟩
        case round =>
          obtain ⟨rfl, HB2⟩ := hrel
          go_wp2
          go_ret
          exact ⟨true, rfl, fun _ => by omega, HB2.out⟩
end Go.Proofs.YthmnmologmmeaaaGreatDoor
end
