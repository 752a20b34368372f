/- validValue and Fits, whatever the value. -/
import Derived.Test.YtogmbehomilalaaGreatDoorZInvReg
import Derived.Test.YtogmbehomilalaaGreatDoorZDo
import Derived.Test.YtogmbehomilalaaGreatDoorZGcd

/- validValue and Fits, whatever the value. -/
section
namespace Go.Proofs.YtogmbehomilalaaGreatDoor
open Go Go.RowKit Go.Deep Go.Shelf

theorem range_54 : List.range 54 = [0, 1, 2, 3, 4, 5, 6, 7, 8, 9, 10, 11, 12, 13, 14, 15, 16, 17, 18, 19, 20, 21, 22, 23, 24, 25, 26, 27, 28, 29, 30, 31, 32, 33, 34, 35, 36, 37, 38, 39, 40, 41, 42, 43, 44, 45, 46, 47, 48, 49, 50, 51, 52, 53] := rfl
theorem lit_54 (f : Nat → Value) : ((List.range 54).map f).toArray = #[f 0, f 1, f 2, f 3, f 4, f 5, f 6, f 7, f 8, f 9, f 10, f 11, f 12, f 13, f 14, f 15, f 16, f 17, f 18, f 19, f 20, f 21, f 22, f 23, f 24, f 25, f 26, f 27, f 28, f 29, f 30, f 31, f 32, f 33, f 34, f 35, f 36, f 37, f 38, f 39, f 40, f 41, f 42, f 43, f 44, f 45, f 46, f 47, f 48, f 49, f 50, f 51, f 52, f 53] := by rw [range_54]; rfl
theorem actlit_54 (a : Act) (h : a.tmps.size = 54) (hd : a.defers = []) : ∃ f : Nat → Value, (∀ t, a.tmps[t]?.getD undef = f t) ∧ a = ⟨#[f 0, f 1, f 2, f 3, f 4, f 5, f 6, f 7, f 8, f 9, f 10, f 11, f 12, f 13, f 14, f 15, f 16, f 17, f 18, f 19, f 20, f 21, f 22, f 23, f 24, f 25, f 26, f 27, f 28, f 29, f 30, f 31, f 32, f 33, f 34, f 35, f 36, f 37, f 38, f 39, f 40, f 41, f 42, f 43, f 44, f 45, f 46, f 47, f 48, f 49, f 50, f 51, f 52, f 53], []⟩ := by
  refine ⟨fun t => a.tmps[t]?.getD undef, fun t => rfl, ?_⟩
  obtain ⟨tm, df⟩ := a
  have h' : tm.size = 54 := h
  have hd' : df = [] := hd
  subst hd'
  have e : tm = ((List.range 54).map fun t => tm[t]?.getD undef).toArray := by
    apply Array.ext
    · simpa using h'
    · intro i h1 h2
      simp [h1]
  exact (congrArg (fun x => (⟨x, []⟩ : Act)) (e.trans (lit_54 _)))


theorem toList_noS (s : ByteArray) : s.toList = [] ↔ s = noS := by
  constructor
  · intro h
    apply ByteArray.ext
    apply Array.ext'
    rw [← ByteArray.toList_eq s, h]
  · rintro rfl
    rw [ByteArray.toList_eq]
instance (n d : Int) : Decidable (Low n d) := by unfold Low; infer_instance
instance (s : ByteArray) : Decidable (Txt s) := by unfold Txt; infer_instance
/-- Is it a value? -/
def okB (k n d : Int) (s : ByteArray) : Bool :=
  if k = 0 then decide (d = 0 ∧ s.toList = [] ∧ 1 ≤ n ∧ n ≤ 255) else if k = 1 then decide ((n = 0 ∨ n = 1) ∧ d = 0 ∧ s.toList = []) else if k = 2 then decide (s.toList = [] ∧ Low n d) else if k = 3 then decide (n = 0 ∧ d = 0 ∧ Txt s) else false
theorem okB_good {k n d : Int} {s : ByteArray} : okB k n d s = true ↔ Good k n d s := by
  unfold okB
  constructor
  · intro h
    split at h
    · rename_i hk
      subst hk
      obtain ⟨rfl, hs, h1, h2⟩ := of_decide_eq_true h
      rw [(toList_noS s).1 hs]
      exact .missing n h1 h2
    · split at h
      · rename_i _ hk
        subst hk
        obtain ⟨hn, rfl, hs⟩ := of_decide_eq_true h
        rw [(toList_noS s).1 hs]
        rcases hn with rfl | rfl
        · exact .truth false
        · exact .truth true
      · split at h
        · rename_i _ _ hk
          subst hk
          obtain ⟨hs, hl⟩ := of_decide_eq_true h
          rw [(toList_noS s).1 hs]
          exact .num n d hl
        · split at h
          · rename_i _ _ _ hk
            subst hk
            obtain ⟨rfl, rfl, ht⟩ := of_decide_eq_true h
            exact .text s ht
          · cases h
  · intro h
    cases h with
    | missing n h1 h2 => simp [h1, h2]
    | truth t => cases t <;> simp [bit]
    | num n d h => simp [h]
    | text s h => simp [h]

set_option maxRecDepth 100000 in
set_option maxHeartbeats 2000000 in
theorem k_lowest (n d : Int) (w : World) :
    Calls Tryz.prog 140 #[.int .i64 n, .int .i64 d] w fun e w' => e = .returned (.bool (decide (Low n d))) ∧ ∃ k, w' = w.drewN k := by
  by_cases h : Low n d
  · rw [decide_eq_true h]; exact c_lowest n d w h
  rw [decide_eq_false h]
  by_cases hi : -1099511627776 ≤ n ∧ n ≤ 1099511627776 ∧ 1 ≤ d ∧ d ≤ 1099511627776
  · obtain ⟨h1, h2, h3, h4⟩ := hi
    have hg : Nat.gcd n.natAbs d.natAbs ≠ 1 := fun h5 => h ⟨h1, h2, h3, h4, h5⟩
    have HA := Lib.hid (c_absolute n w (by omega) (by omega))
    have HG : Hid (∀ W, Calls Tryz.prog 172 #[U n.natAbs, .int .u64 d] W fun e w' => e = .returned (.int .u64 (Nat.gcd n.natAbs d.natAbs)) ∧ ∃ k, w' = W.drewN k) := by
      intro W
      have h9 := c_commonWord n.natAbs d.natAbs W
      rw [show U d.natAbs = .int .u64 d from by show Value.int _ _ = _; congr 1; omega] at h9
      exact h9
    have hg' : ((Nat.gcd n.natAbs d.natAbs : Nat) : Int) ≠ 1 := by omega
    clear hg h
    generalize ((Nat.gcd n.natAbs d.natAbs : Nat) : Int) = g at *
    have e1 : (g == 1) = false := by rw [beq_eq_false_iff_ne]; exact hg'
    go_enter Tryz.func140, Tryz.ntmps140
    go_wp2_with fail
    refine HA.out.mono ?_
    rintro e w' ⟨rfl, rfl⟩
    clear HA
    go_wp2_with fail
    refine (HG.out _).mono ?_
    rintro e w' ⟨rfl, k, rfl⟩
    go_wp2
    go_ret
    exact ⟨rfl, k, rfl⟩
  · by_cases h1 : -1099511627776 ≤ n
    · by_cases h2 : n ≤ 1099511627776
      · by_cases h3 : 1 ≤ d
        · have h4 : ¬ d ≤ 1099511627776 := fun h4 => hi ⟨h1, h2, h3, h4⟩
          clear h hi
          go_enter Tryz.func140, Tryz.ntmps140
          go_wp2
          go_ret
          exact ⟨rfl, 0, rfl⟩
        · clear h hi
          go_enter Tryz.func140, Tryz.ntmps140
          go_wp2
          go_ret
          exact ⟨rfl, 0, rfl⟩
      · clear h hi
        go_enter Tryz.func140, Tryz.ntmps140
        go_wp2
        go_ret
        exact ⟨rfl, 0, rfl⟩
    · clear h hi
      go_enter Tryz.func140, Tryz.ntmps140
      go_wp2
      go_ret
      exact ⟨rfl, 0, rfl⟩

set_option maxRecDepth 100000 in
set_option maxHeartbeats 1000000 in
theorem k_printable (s : ByteArray) (w : World) :
    Calls Tryz.prog 141 #[.string s] w fun e w' => e = .returned (.bool (decide (Txt s))) ∧ w = w' := by
  by_cases h : Txt s
  · rw [decide_eq_true h]; exact c_printable s w h
  rw [decide_eq_false h]
  by_cases h1 : s.size ≤ 16
  · have H2 : Hid (¬ ∀ i (h : i < s.size), 32 ≤ (s[i].toNat : Int) ∧ (s[i].toNat : Int) ≤ 126) := fun h2 => h ⟨h1, h2⟩
    clear h
    go_enter Tryz.func141, Tryz.ntmps141
    go_wp2
    go_loop [3, 9] (fun _ i => ∃ k : Nat, k ≤ s.size ∧ i = .int .i64 k ∧ Hid (∀ j (h : j < s.size), j < k → 32 ≤ (s[j].toNat : Int) ∧ (s[j].toNat : Int) ≤ 126)) (fun _ i => s.size - (intOf i).toNat)
    case atStart => exact ⟨0, Nat.zero_le _, rfl, fun j _ hj => absurd hj (by omega)⟩
    case round =>
      obtain ⟨k, hk, rfl, HJ⟩ := hrel
      by_cases hlt : k < s.size
      · by_cases hb : 32 ≤ (s[k].toNat : Int) ∧ (s[k].toNat : Int) ≤ 126
        · have HN : Hid (∀ j (h : j < s.size), j < k + 1 → 32 ≤ (s[j].toNat : Int) ∧ (s[j].toNat : Int) ≤ 126) := fun j h hj => by
            by_cases hjk : j = k
            · subst hjk; exact hb
            · exact HJ.out j h (by omega)
          obtain ⟨g1, g2⟩ := hb
          clear HJ
          go_wp2
          go_round
          case rel => exact ⟨k + 1, by omega, by go_num, HN⟩
          case measure => simp [intOf]; omega
        · by_cases g1 : 32 ≤ (s[k].toNat : Int)
          · have g2 : ¬ (s[k].toNat : Int) ≤ 126 := fun g2 => hb ⟨g1, g2⟩
            clear HJ hb
            go_wp2
            go_ret
            exact ⟨rfl, rfl⟩
          · clear HJ hb
            go_wp2
            go_ret
            exact ⟨rfl, rfl⟩
      · exact absurd (fun i h => HJ.out i h (by omega)) H2.out
  · clear h
    go_enter Tryz.func141, Tryz.ntmps141
    go_wp2
    go_ret
    exact ⟨rfl, rfl⟩


set_option maxRecDepth 100000 in
set_option maxHeartbeats 2000000 in
theorem k_valid0 (n d : Int) (s : ByteArray) (w : World) :
    Calls Tryz.prog 115 #[V 0 n d s] w fun e w' => e = .returned (.bool (okB 0 n d s)) ∧ Below w.heap.size w w' := by
  have E : (((0 : Int) == 0 && n == n && d == 0 && ByteArray.toList s == ByteArray.toList noS) && (decide (1 ≤ n)) && (decide (n ≤ 255))) = okB 0 n d s := by
    rw [Bool.eq_iff_iff]
    have h9 : (ByteArray.toList noS) = [] := (toList_noS _).2 rfl
    simp only [okB, h9, if_true, Bool.and_eq_true, beq_iff_eq, decide_eq_true_eq]
    constructor
    · rintro ⟨⟨⟨⟨⟨_, _⟩, h1⟩, h2⟩, h3⟩, h4⟩
      exact ⟨h1, h2, h3, h4⟩
    · rintro ⟨h1, h2, h3, h4⟩
      exact ⟨⟨⟨⟨⟨trivial, trivial⟩, h1⟩, h2⟩, h3⟩, h4⟩
  obtain ⟨W, b, hW, hb, hlt, hbel, K⟩ := box_facts w 0 n d s
  have HW := Lib.hid hW
  have HB := Lib.hid hb
  have K4 : Hid (∀ W', Below W.heap.size W W' → Val4 W' b 0 0 n d s) := K.out
  have HBE := Lib.hid hbel
  clear hW hb K hbel
  go_enter Tryz.func115, Tryz.ntmps115
  go_wp2_with fail
  rw [HW.out, HB.out]
  rename_i K9 hK9
  refine rv_missing b n d s (nt := 54) rfl rfl (by omega) (by kernel_rfl) (dag_ofG (by kernel_rfl)) rfl rfl rfl rfl rfl rfl rfl rfl rfl (by kernel_rfl) rfl rfl rfl (by kernel_rfl) rfl rfl rfl (by kernel_rfl) (by kernel_rfl) rfl rfl rfl (by kernel_rfl) rfl rfl rfl (by kernel_rfl) rfl rfl rfl (by kernel_rfl) (by kernel_rfl) rfl rfl rfl (by kernel_rfl) (by kernel_rfl) rfl rfl rfl (by kernel_rfl) (by kernel_rfl) rfl rfl rfl (by kernel_rfl) rfl rfl rfl (by kernel_rfl) rfl rfl rfl (by kernel_rfl) (by kernel_rfl) rfl rfl rfl (by kernel_rfl) (by kernel_rfl) rfl rfl rfl (by kernel_rfl) (by kernel_rfl) rfl rfl rfl (by kernel_rfl) rfl K4.out (fun W hW => c_missing n W) ?_
  intro a w5 hn5 hd5 B5 v2
  refine hK9 a w5 ?_
  have v2' : a.tmps[2]?.getD undef = _ := v2
  obtain ⟨g, hg, ha⟩ := actlit_54 a hn5 hd5
  rw [hg] at v2'
  subst ha
  rw [v2', E]
  have B6 : Below w.heap.size w w5 := HBE.out.trans (B5.mono HBE.out.size)
  clear v2 v2' hg hn5 hd5 B5
  generalize hr : okB 0 n d s = r
  go_wp2
  go_ret
  subst hr
  exact ⟨rfl, B6⟩


set_option maxRecDepth 100000 in
set_option maxHeartbeats 2000000 in
theorem k_valid1 (n d : Int) (s : ByteArray) (w : World) :
    Calls Tryz.prog 115 #[V 1 n d s] w fun e w' => e = .returned (.bool (okB 1 n d s)) ∧ Below w.heap.size w w' := by
  have E : ((1 : Int) == 1 && n == (bit (n == 1)) && d == 0 && ByteArray.toList s == ByteArray.toList noS) = okB 1 n d s := by
    rw [Bool.eq_iff_iff]
    have h9 : (ByteArray.toList noS) = [] := (toList_noS _).2 rfl
    have h8 : n = bit (n == 1) ↔ (n = 0 ∨ n = 1) := by
      unfold bit
      by_cases h : n = 1
      · subst h; simp
      · have : (n == 1) = false := by rw [beq_eq_false_iff_ne]; exact h
        rw [this]
        simp [h]
    have h7 : ¬ ((1 : Int) = 0) := by omega
    simp only [okB, h9, h7, if_true, if_false, Bool.and_eq_true, beq_iff_eq, decide_eq_true_eq, h8]
    constructor
    · rintro ⟨⟨⟨_, h1⟩, h2⟩, h3⟩
      exact ⟨h1, h2, h3⟩
    · rintro ⟨h1, h2, h3⟩
      exact ⟨⟨⟨trivial, h1⟩, h2⟩, h3⟩
  obtain ⟨W, b, hW, hb, hlt, hbel, K⟩ := box_facts w 1 n d s
  have HW := Lib.hid hW
  have HB := Lib.hid hb
  have K4 : Hid (∀ W', Below W.heap.size W W' → Val4 W' b 0 1 n d s) := K.out
  have HBE := Lib.hid hbel
  clear hW hb K hbel
  go_enter Tryz.func115, Tryz.ntmps115
  go_wp2_with fail
  rw [HW.out, HB.out]
  rename_i K9 hK9
  refine rv_truth b n d s (nt := 54) rfl rfl (by omega) (by kernel_rfl) (dag_ofG (by kernel_rfl)) rfl rfl rfl rfl rfl rfl rfl rfl rfl (by kernel_rfl) rfl rfl rfl (by kernel_rfl) rfl rfl rfl (by kernel_rfl) rfl rfl rfl (by kernel_rfl) (by kernel_rfl) rfl rfl rfl (by kernel_rfl) rfl K4.out (fun W hW => c_truth (n == 1) W) ?_
  intro a w5 hn5 hd5 B5 v2
  refine hK9 a w5 ?_
  have v2' : a.tmps[2]?.getD undef = _ := v2
  obtain ⟨g, hg, ha⟩ := actlit_54 a hn5 hd5
  rw [hg] at v2'
  subst ha
  rw [v2', E]
  have B6 : Below w.heap.size w w5 := HBE.out.trans (B5.mono HBE.out.size)
  clear v2 v2' hg hn5 hd5 B5
  generalize hr : okB 1 n d s = r
  go_wp2
  go_ret
  subst hr
  exact ⟨rfl, B6⟩


set_option maxRecDepth 100000 in
set_option maxHeartbeats 2000000 in
theorem k_valid2 (n d : Int) (s : ByteArray) (w : World) :
    Calls Tryz.prog 115 #[V 2 n d s] w fun e w' => e = .returned (.bool (okB 2 n d s)) ∧ Below w.heap.size w w' := by
  have HBE : Hid (Below w.heap.size w (w.alloc (.cells #[.int .i64 2, .int .i64 n, .int .i64 d, .string s] 40))) := (Below.refl _ _).alloc (Nat.le_refl _) _
  by_cases hs : s.toList = []
  · have E : okB 2 n d s = decide (Low n d) := by simp [okB, hs]
    rw [E]
    have HL := Lib.hid (fun W => k_lowest n d W)
    generalize decide (Low n d) = r at *
    go_enter Tryz.func115, Tryz.ntmps115
    go_wp2_with fail
    refine (HL.out _).mono ?_
    rintro e w' ⟨rfl, k, rfl⟩
    go_wp2
    go_ret
    exact ⟨rfl, Below.drewN_ HBE.out k⟩
  · have E : okB 2 n d s = false := by simp [okB, hs]
    rw [E]
    go_enter Tryz.func115, Tryz.ntmps115
    go_wp2
    go_ret
    exact ⟨by simp, HBE.out⟩


set_option maxRecDepth 100000 in
set_option maxHeartbeats 2000000 in
theorem k_valid3 (n d : Int) (s : ByteArray) (w : World) :
    Calls Tryz.prog 115 #[V 3 n d s] w fun e w' => e = .returned (.bool (okB 3 n d s)) ∧ Below w.heap.size w w' := by
  have HBE : Hid (Below w.heap.size w (w.alloc (.cells #[.int .i64 3, .int .i64 n, .int .i64 d, .string s] 40))) := (Below.refl _ _).alloc (Nat.le_refl _) _
  by_cases hn : n = 0
  · by_cases hd : d = 0
    · subst hn hd
      have E : okB 3 0 0 s = decide (Txt s) := by simp [okB]
      rw [E]
      have HL := Lib.hid (fun W => k_printable s W)
      generalize decide (Txt s) = r at *
      go_enter Tryz.func115, Tryz.ntmps115
      go_wp2_with fail
      refine (HL.out _).mono ?_
      rintro e w' ⟨rfl, rfl⟩
      go_wp2
      go_ret
      exact ⟨rfl, HBE.out⟩
    · subst hn
      have E : okB 3 0 d s = false := by simp [okB, hd]
      rw [E]
      go_enter Tryz.func115, Tryz.ntmps115
      go_wp2
      go_ret
      exact ⟨rfl, HBE.out⟩
  · have E : okB 3 n d s = false := by simp [okB, hn]
    rw [E]
    go_enter Tryz.func115, Tryz.ntmps115
    go_wp2
    go_ret
    exact ⟨rfl, HBE.out⟩


set_option maxRecDepth 100000 in
set_option maxHeartbeats 2000000 in
theorem k_validX (k n d : Int) (s : ByteArray) (w : World) (h0 : ¬ k = 0) (h1 : ¬ k = 1) (h2 : ¬ k = 2) (h3 : ¬ k = 3) :
    Calls Tryz.prog 115 #[V k n d s] w fun e w' => e = .returned (.bool false) ∧ Below w.heap.size w w' := by
  have HBE : Hid (Below w.heap.size w (w.alloc (.cells #[.int .i64 k, .int .i64 n, .int .i64 d, .string s] 40))) := (Below.refl _ _).alloc (Nat.le_refl _) _
  go_enter Tryz.func115, Tryz.ntmps115
  go_wp2
  go_ret
  exact ⟨rfl, HBE.out⟩
theorem k_valid (k n d : Int) (s : ByteArray) (w : World) :
    Calls Tryz.prog 115 #[V k n d s] w fun e w' => e = .returned (.bool (okB k n d s)) ∧ Below w.heap.size w w' := by
  by_cases h0 : k = 0
  · subst h0; exact k_valid0 n d s w
  by_cases h1 : k = 1
  · subst h1; exact k_valid1 n d s w
  by_cases h2 : k = 2
  · subst h2; exact k_valid2 n d s w
  by_cases h3 : k = 3
  · subst h3; exact k_valid3 n d s w
  rw [show okB k n d s = false by simp [okB, h0, h1, h2, h3]]
  exact k_validX k n d s w h0 h1 h2 h3

end Go.Proofs.YtogmbehomilalaaGreatDoor
end

/- Finding an operation by its number and its number of operands: what is none. -/
section
namespace Go.Proofs.YtogmbehomilalaaGreatDoor
open Go.RowKit Go.Deep

end Go.Proofs.YtogmbehomilalaaGreatDoor
end

/- The type of the result of an operation: every operation, every list of types. -/
section
namespace Go.Proofs.YtogmbehomilalaaGreatDoor
open Go.RowKit Go.Deep

def isTy (t : Int) : Bool := decide (1 ≤ t) && decide (t ≤ 4)
theorem c_isTypeB (t : Int) (w : World) :
    Calls Tryz.prog 114 #[.int .i64 t] w fun e w' => e = .returned (.bool (isTy t)) ∧ w = w' := by
  unfold isTy
  by_cases h1 : 1 ≤ t
  · have h1' : decide (1 ≤ t) = true := by simpa using h1
    rw [h1']
    go_enter Tryz.func114, Tryz.ntmps114
    go_wp2
    go_ret
    exact ⟨rfl, rfl⟩
  · have h1' : decide (1 ≤ t) = false := by simpa using h1
    rw [h1']
    go_enter Tryz.func114, Tryz.ntmps114
    go_wp2
    go_ret
    exact ⟨rfl, rfl⟩

def n3 (n1 n2 n3 : Int) (k : Nat) : Int := if k = 0 then n1 else if k = 1 then n2 else n3

end Go.Proofs.YtogmbehomilalaaGreatDoor
end

/- Dividing two words by one: the arithmetic of guessing half a word at a time. No condition. -/
section
namespace Go.Proofs.YtogmbehomilalaaGreatDoor

def H32 : Nat := 4294967296
theorem H32_sq : H32 * H32 = W64 := by decide

/-- q is a guess of (a H + d) / (p H + l), not too small; r is what a leaves. -/
structure Guess (a d p l q r : Nat) : Prop where
  eq : a = q * p + r
  ge : (a * H32 + d) / (p * H32 + l) ≤ q

theorem Guess.more {a d p l q r : Nat} (hlt : a < p * H32 + l) (hd : d < H32) (hp : 0 < p) (g : Guess a d p l q r) (hc : H32 ≤ q ∨ H32 * r + d < q * l) : 0 < q ∧ Guess a d p l (q - 1) (r + p) := by
  have hq : 0 < q := by
    rcases hc with h | h
    · have : 0 < H32 := by decide
      omega
    · exact Nat.pos_of_ne_zero fun e => by subst e; simp at h
  refine ⟨hq, ?_, ?_⟩
  · obtain ⟨k, rfl⟩ : ∃ k, q = k + 1 := ⟨q - 1, by omega⟩
    have := g.eq
    rw [Nat.succ_mul] at this
    simp only [Nat.add_sub_cancel]
    omega
  · have hY : 0 < p * H32 + l := by have := Nat.mul_pos hp (show 0 < H32 by decide); omega
    have key : (a * H32 + d) / (p * H32 + l) < q := by
      rw [Nat.div_lt_iff_lt_mul hY]
      rcases hc with h | h
      · have h1 : (a + 1) * H32 ≤ (p * H32 + l) * H32 := Nat.mul_le_mul_right _ hlt
        have h2 : (p * H32 + l) * H32 ≤ (p * H32 + l) * q := Nat.mul_le_mul_left _ h
        rw [Nat.succ_mul] at h1
        rw [Nat.mul_comm q]
        omega
      · have e1 : a * H32 = q * (p * H32) + H32 * r := by rw [g.eq, Nat.add_mul, Nat.mul_assoc, Nat.mul_comm r]
        have e2 : q * (p * H32 + l) = q * (p * H32) + q * l := Nat.mul_add ..
        omega
    omega

theorem Guess.done {a d p l q r : Nat} (hp : 0 < p) (g : Guess a d p l q r) (hc : q * l ≤ H32 * r + d) : q = (a * H32 + d) / (p * H32 + l) := by
  have hY : 0 < p * H32 + l := by have := Nat.mul_pos hp (show 0 < H32 by decide); omega
  refine Nat.le_antisymm ?_ g.ge
  rw [Nat.le_div_iff_mul_le hY]
  have e1 : a * H32 = q * (p * H32) + H32 * r := by rw [g.eq, Nat.add_mul, Nat.mul_assoc, Nat.mul_comm r]
  have e2 : q * (p * H32 + l) = q * (p * H32) + q * l := Nat.mul_add ..
  omega

theorem Guess.out {a d p l q r : Nat} (hlt : a < p * H32 + l) (hp : 0 < p) (hl : l < H32) (g : Guess a d p l q r) (hr : H32 ≤ r) : q = (a * H32 + d) / (p * H32 + l) := by
  refine g.done hp ?_
  have hq : q < H32 := by
    have h1 : q * p < H32 * p := by have := g.eq; rw [Nat.mul_comm H32]; omega
    exact Nat.lt_of_mul_lt_mul_right h1
  have h1 : q * l ≤ H32 * l := Nat.mul_le_mul_right _ (by omega)
  have h2 : H32 * l ≤ H32 * r := Nat.mul_le_mul_left _ (by omega)
  omega

theorem Guess.first (a d p l : Nat) (hp : 0 < p) (hd : d < H32) : Guess a d p l (a / p) (a % p) := by
  refine ⟨by have := Nat.div_add_mod a p; rw [Nat.mul_comm]; exact this.symm, ?_⟩
  have hY : 0 < p * H32 + l := by have := Nat.mul_pos hp (show 0 < H32 by decide); omega
  have h1 : (a * H32 + d) / (p * H32 + l) ≤ (a * H32 + d) / (p * H32) := Nat.div_le_div_left (by omega) (Nat.mul_pos hp (by decide))
  have h2 : (a * H32 + d) / (p * H32) = a / p := by
    rw [Nat.mul_comm p, ← Nat.div_div_eq_div_mul, Nat.mul_comm a, Nat.mul_add_div (by decide), Nat.div_eq_of_lt hd, Nat.add_zero]
  omega
/-- Half a word of the quotient after the other. -/
theorem two_halves (a d1 d0 Y : Nat) (hY : 0 < Y) (_h1 : d1 < H32) (_h0 : d0 < H32) :
    (a * W64 + (d1 * H32 + d0)) / Y = (a * H32 + d1) / Y * H32 + ((a * H32 + d1) % Y * H32 + d0) / Y ∧ (a * W64 + (d1 * H32 + d0)) % Y = ((a * H32 + d1) % Y * H32 + d0) % Y := by
  have e := Nat.div_add_mod (a * H32 + d1) Y
  generalize (a * H32 + d1) / Y = q at *
  generalize (a * H32 + d1) % Y = r at *
  have e2 : a * W64 + (d1 * H32 + d0) = Y * (q * H32) + (r * H32 + d0) := by
    have : (a * H32 + d1) * H32 = (Y * q + r) * H32 := by rw [e]
    rw [Nat.add_mul, Nat.add_mul, Nat.mul_assoc, H32_sq, Nat.mul_assoc] at this
    omega
  rw [e2]
  exact ⟨Nat.mul_add_div hY .., Nat.mul_add_mod ..⟩
/-- A divisor of L bits, and what is divided, shifted until its highest bit is 1. -/
structure Shift (hi lo y L s Y a d : Nat) : Prop where
  hY : Y = y * 2 ^ s
  ha : a = hi * 2 ^ s + lo / 2 ^ L
  hd : d = lo * 2 ^ s % W64
  hL : L ≤ 64
  hs : s = 64 - L
  all : (hi * W64 + lo) * 2 ^ s = a * W64 + d
  lt : a < Y
  top : Y < W64
  half : 9223372036854775808 ≤ Y
theorem pow_64 : (2 : Nat) ^ 64 = W64 := by decide
theorem shift_of (hi lo y L : Nat) (hlo : lo < W64) (hh : hi < y) (h1 : y < 2 ^ L) (h2 : 2 ^ (L - 1) ≤ y) (hL : L ≤ 64) (h0 : 0 < L) : Shift hi lo y L (64 - L) (y * 2 ^ (64 - L)) (hi * 2 ^ (64 - L) + lo / 2 ^ L) (lo * 2 ^ (64 - L) % W64) := by
  have eW : W64 = 2 ^ L * 2 ^ (64 - L) := by rw [← Nat.pow_add, show L + (64 - L) = 64 by omega, pow_64]
  have hp : 0 < 2 ^ (64 - L) := Nat.pow_pos (by decide)
  have hdiv : lo * 2 ^ (64 - L) / W64 = lo / 2 ^ L := by rw [eW]; exact Nat.mul_div_mul_right _ _ hp
  have hmod := Nat.div_add_mod (lo * 2 ^ (64 - L)) W64
  rw [hdiv] at hmod
  have all : (hi * W64 + lo) * 2 ^ (64 - L) = (hi * 2 ^ (64 - L) + lo / 2 ^ L) * W64 + lo * 2 ^ (64 - L) % W64 := by
    rw [Nat.add_mul, Nat.add_mul, Nat.mul_right_comm, Nat.mul_comm (lo / 2 ^ L)]
    omega
  refine ⟨rfl, rfl, rfl, hL, rfl, all, ?_, ?_, ?_⟩
  · have h3 : (hi * W64 + lo) * 2 ^ (64 - L) < (y * 2 ^ (64 - L)) * W64 := by
      rw [Nat.mul_right_comm]
      refine Nat.mul_lt_mul_of_pos_right ?_ hp
      have : (hi + 1) * W64 ≤ y * W64 := Nat.mul_le_mul_right _ hh
      rw [Nat.succ_mul] at this
      omega
    have h4 : (hi * 2 ^ (64 - L) + lo / 2 ^ L) * W64 < (y * 2 ^ (64 - L)) * W64 := by omega
    exact Nat.lt_of_mul_lt_mul_right h4
  · rw [eW]; exact Nat.mul_lt_mul_of_pos_right h1 hp
  · have e : (9223372036854775808 : Nat) = 2 ^ (L - 1) * 2 ^ (64 - L) := by
      rw [← Nat.pow_add, show L - 1 + (64 - L) = 63 by omega]
    rw [e]; exact Nat.mul_le_mul_right _ h2
/-- What the two halves give, shifted back. -/
theorem Shift.ends {hi lo y L s Y a d : Nat} (h : Shift hi lo y L s Y a d) :
    (a * H32 + d / H32) / Y * H32 + ((a * H32 + d / H32) % Y * H32 + d % H32) / Y = (hi * W64 + lo) / y ∧ ((a * H32 + d / H32) % Y * H32 + d % H32) % Y / 2 ^ s = (hi * W64 + lo) % y := by
  have hp : 0 < 2 ^ s := Nat.pow_pos (by decide)
  have hY : 0 < Y := by have := h.half; omega
  have hdlt : d < W64 := by rw [h.hd]; exact Nat.mod_lt _ (by decide)
  have ed : d / H32 * H32 + d % H32 = d := by have := Nat.div_add_mod d H32; rw [Nat.mul_comm] at this; exact this
  have t := two_halves a (d / H32) (d % H32) Y hY (by rw [Nat.div_lt_iff_lt_mul (by decide), H32_sq]; exact hdlt) (Nat.mod_lt _ (by decide))
  rw [ed, ← h.all, h.hY, Nat.mul_div_mul_right _ _ hp, Nat.mul_mod_mul_right] at t
  rw [h.hY]
  exact ⟨t.1.symm, by rw [← t.2, Nat.mul_div_cancel _ hp]⟩
end Go.Proofs.YtogmbehomilalaaGreatDoor
end
