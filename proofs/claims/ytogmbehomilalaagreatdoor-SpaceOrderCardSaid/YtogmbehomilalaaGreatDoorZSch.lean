/- The error of a schema. -/
import Derived.Test.YtogmbehomilalaaGreatDoorZSpE
namespace Go.Proofs.YtogmbehomilalaaGreatDoor
open Go Go.RowKit Go.Deep

/-- The attributes of a slice. -/
def AttrsAt (w : World) (A : Option Addr) (n : Nat) (nm : Nat → ByteArray) (ty : Nat → Int) : Prop :=
  0 < n → ∃ b o, A = some ⟨b, o, none⟩ ∧ b < w.heap.size ∧ ∀ k, k < n → w.cell? ⟨b, o + k * 2, none⟩ = some (.string (nm k)) ∧ w.cell? ⟨b, o + k * 2 + 1, none⟩ = some (.int .i64 (ty k))
theorem AttrsAt.grown {w w' : World} {A : Option Addr} {n b : Nat} {nm : Nat → ByteArray} {ty : Nat → Int} (h : AttrsAt w A n nm ty) (hg : w.grownBy w' (some b)) (hA : ∀ a, A = some a → a.block ≠ b) : AttrsAt w' A n nm ty := fun hn => by
  obtain ⟨b', o, rfl, h2, h3⟩ := h hn
  have hne := hA _ rfl
  have hb : w'.heap[b']? = w.heap[b']? := hg.block b' h2 (fun e => hne (by injection e))
  have hc : ∀ j, w'.cell? ⟨b', j, none⟩ = w.cell? ⟨b', j, none⟩ := fun j => by simp [World.cell?, hb]
  exact ⟨b', o, rfl, Nat.lt_of_lt_of_le h2 hg.size, fun k hk => by rw [hc, hc]; exact h3 k hk⟩
theorem AttrsAt.below {w w' : World} {A : Option Addr} {n : Nat} {nm : Nat → ByteArray} {ty : Nat → Int} (h : AttrsAt w A n nm ty) (hb : Below w.heap.size w w') : AttrsAt w' A n nm ty := fun hn => by
  obtain ⟨b, o, h1, h2, h3⟩ := h hn
  refine ⟨b, o, h1, Nat.lt_of_lt_of_le h2 hb.size, fun k hk => ?_⟩
  obtain ⟨a1, a2⟩ := h3 k hk
  exact ⟨(hb.cell (p := ⟨b, o + k * 2, none⟩) h2).trans a1, (hb.cell (p := ⟨b, o + k * 2 + 1, none⟩) h2).trans a2⟩
noncomputable def attrE (met : List ByteArray) (s : ByteArray) (t : Int) : Int :=
  if (nameB s && !inN met s) = true then (if t < 1 ∨ 4 < t then 12 else 0) else 11
noncomputable def attrsTo (met : List ByteArray) (nm : Nat → ByteArray) (ty : Nat → Int) : Nat → Int
  | 0 => 0
  | k + 1 => if attrsTo met nm ty k = 0 then attrE (metK met nm k) (nm k) (ty k) else attrsTo met nm ty k
theorem attrsTo_le {met : List ByteArray} {nm : Nat → ByteArray} {ty : Nat → Int} {k n : Nat} (h : attrsTo met nm ty k ≠ 0) (hn : k ≤ n) : attrsTo met nm ty n = attrsTo met nm ty k := by
  induction n with
  | zero => obtain rfl : k = 0 := by omega
            rfl
  | succ n ih =>
    by_cases e : k = n + 1
    · rw [e]
    · rw [attrsTo, if_neg (by rw [ih (by omega)]; exact h), ih (by omega)]
/-- The error of a schema. -/
noncomputable def schE (nm : Nat → ByteArray) (lo hi : Nat → Int) (n : Nat) (an : Nat → ByteArray) (ty : Nat → Int) (m : Nat) : Int :=
  if dimsZ nm lo hi n ≠ 0 then dimsZ nm lo hi n else if m = 0 ∨ 6 < m then 9 else attrsTo (metK [] nm n) an ty m

set_option maxRecDepth 100000 in
set_option maxHeartbeats 4000000 in
theorem s_Schema (w : World) (A B : Option Addr) (n cap m bcap : Nat) (nm : Nat → ByteArray) (lo hi : Nat → Int) (an : Nat → ByteArray) (ty : Nat → Int) (hd : DimsAt w A n nm lo hi) (ha : AttrsAt w B m an ty) :
    Calls Tryz.prog 75 #[.slice A n cap, .slice B m bcap] w fun e w' => e = .returned (.int .i64 (schE nm lo hi n an ty m)) ∧ Below w.heap.size w w' := by
  have hmm := @run_makeMap Tryz.prog
  have hb0 : Below w.heap.size w (w.alloc (.map #[] 0)) := (Below.refl _ _).alloc (Nat.le_refl _) _
  have HD := Lib.hid (s_dimsError (w.alloc (.map #[] 0)) A n cap w.heap.size nm lo hi [] (hd.below hb0) (fun hn a ha => by
    obtain ⟨b, o, rfl, h2, _⟩ := hd hn
    injection ha with ha
    subst ha
    exact Nat.ne_of_lt h2) (made_names w) (by decide))
  have HAt := Lib.hid (ha.below hb0)
  have HAb : Hid (0 < m → ∀ a, B = some a → a.block ≠ w.heap.size) := fun hn a h => by
    obtain ⟨b, o, rfl, h2, _⟩ := ha hn
    injection h with h
    subst h
    exact Nat.ne_of_lt h2
  have HBB : Hid (∀ W, (w.alloc (.map #[] 0)).grownBy W (some w.heap.size) → Below w.heap.size w W) := fun W hg => by
    have hz := hg.size
    rw [World.size_alloc] at hz
    exact ⟨hg.os, hg.tape, hg.output, by omega, fun k hk => (hg.block k (by simp; omega) (fun e => by injection e with e; omega)).trans (hb0.block k hk)⟩
  obtain ⟨ve, hve⟩ : ∃ ve, schE nm lo hi n an ty m = ve := ⟨_, rfl⟩
  rw [hve]
  have HV : Hid (ve = if dimsZ nm lo hi n ≠ 0 then dimsZ nm lo hi n else if m = 0 ∨ 6 < m then 9 else attrsTo (metK [] nm n) an ty m) := hve.symm
  clear hd ha hb0 hve
  by_cases h0 : dimsZ nm lo hi n = 0
  · rw [if_neg (by rw [h0]; simp)] at HV
    have hn4 : n ≤ 4 := (dimsZ_ok h0).2.1
    have h0' : dimsEr [] nm lo hi n = 0 := h0
    rw [h0'] at HD
    clear h0 h0'
    by_cases hm : m = 0 ∨ 6 < m
    · rw [if_pos hm] at HV
      rcases hm with rfl | hm
      · go_enter Tryz.func75, Tryz.ntmps75
        go_wp2_with (first | (go_at_call 112; refine HD.out.mono ?_; rintro e w1 ⟨rfl, hg1, hN1⟩))
        go_ret
        exact ⟨by rw [HV.out]; rfl, HBB.out _ hg1⟩
      · have g1 : ((m : Int) == 0) = false := by rw [beq_eq_false_iff_ne]; omega
        have g2 : (m : Int) > 6 := by omega
        go_enter Tryz.func75, Tryz.ntmps75
        go_wp2_with (first | (go_at_call 112; refine HD.out.mono ?_; rintro e w1 ⟨rfl, hg1, hN1⟩))
        go_ret
        exact ⟨by rw [HV.out]; rfl, HBB.out _ hg1⟩
    · rw [if_neg hm] at HV
      have g1 : ((m : Int) == 0) = false := by rw [beq_eq_false_iff_ne]; omega
      have g2 : ¬ (m : Int) > 6 := by omega
      have hm6 : m ≤ 6 := by omega
      clear hm
      go_enter Tryz.func75, Tryz.ntmps75
      go_wp2_with (first | (go_at_call 112; refine HD.out.mono ?_; rintro e w1 ⟨rfl, hg1, hN1⟩))
      have HG1 := Lib.hid hg1
      have HN1 := Lib.hid (hN1 trivial)
      clear hg1 hN1 HD
      have HML : Hid ((metK [] nm n).length ≤ 4) := by show _ ≤ _; rw [metK_len]; simp; exact hn4
      generalize metK [] nm n = M0 at *
      go_loopw [8, 26] (fun _ i wr => ∃ k : Nat, k ≤ m ∧ i = .int .i64 k ∧ Hid (attrsTo M0 an ty k = 0 ∧ (w.alloc (.map #[] 0)).grownBy wr (some w.heap.size) ∧ NamesAt wr w.heap.size (metK M0 an k))) (fun _ i _ => m - (intOf i).toNat)
      case atStart => exact ⟨0, Nat.zero_le _, rfl, rfl, HG1.out, HN1.out⟩
      case round =>
        obtain ⟨k, hk, rfl, HK⟩ := hrel
        by_cases hlt : k < m
        · obtain ⟨bd, o, rfl, _, hc⟩ := (HAt.out.grown HK.out.2.1 (HAb.out (by omega))) (by omega)
          obtain ⟨c0, c1⟩ := hc k hlt
          clear hc
          have HT : Hid (attrsTo M0 an ty (k + 1) = attrE (metK M0 an k) (an k) (ty k)) := by show _ = _; rw [attrsTo, if_pos HK.out.1]
          have HE : Hid (attrE (metK M0 an k) (an k) (ty k) ≠ 0 → ve = attrE (metK M0 an k) (an k) (ty k)) := fun h => by
            rw [HV.out, attrsTo_le (k := k + 1) (by rw [HT.out]; exact h) (by omega), HT.out]
          have HLen : Hid ((metK M0 an k).length < 1000000) := by
            show _ < _
            have := metK_len M0 an k
            have := HML.out
            omega
          have HNx := HK.out.2.2
          have hbl := HNx.lt
          generalize hs : an k = s at *
          generalize hty : ty k = y at *
          have HSx : Hid (metK M0 an (k + 1) = s :: metK M0 an k) := by show _ = _; rw [metK, hs]
          clear hs hty
          generalize hMK : metK M0 an k = M at *
          have hnw := heap_alloc_new wr (Obj.cells #[Value.string s, Value.int IntKind.i64 y] 59)
          have HG : Hid ((w.alloc (.map #[] 0)).grownBy (wr.alloc (Obj.cells #[Value.string s, Value.int IntKind.i64 y] 59)) (some w.heap.size)) := HK.out.2.1.trans (World.grownBy_alloc wr _ (some w.heap.size))
          have HA := Lib.hid (HNx.alloc (Obj.cells #[Value.string s, Value.int IntKind.i64 y] 59))
          by_cases ht : nameB s = true ∧ inN M s = false
          · have HD0 : Hid (attrE M s y = if y < 1 ∨ 4 < y then 12 else 0) := by show _ = _; rw [attrE, if_pos (by rw [ht.1, ht.2]; rfl)]
            have HTk := Lib.hid (s_takes_yes w.heap.size M s _ HA.out HLen.out ht.1 ht.2)
            clear ht hMK
            go_wp2_with fail
            refine HTk.out.mono ?_
            rintro e w1 ⟨rfl, hm1, hg1⟩
            have hbk := hg1.block wr.heap.size (by simp) (by intro e; injection e with e; omega)
            have v1 : w1.cell? ⟨wr.heap.size, 1, none⟩ = some (.int .i64 y) := by rw [cell_of_row _ _ _ _ _ _ (hbk.trans hnw)]; rfl
            have HG1 : Hid ((w.alloc (.map #[] 0)).grownBy w1 (some w.heap.size)) := HG.out.trans hg1
            have HM1 := Lib.hid hm1
            clear hbk hnw hm1 hg1 HTk c0 c1
            by_cases g3 : y < 1
            · have HR : Hid (attrE M s y = 12) := by show _ = _; rw [HD0.out, if_pos (.inl g3)]
              have HF : Hid (ve = 12) := by show _ = _; rw [HE.out (by rw [HR.out]; decide), HR.out]
              go_wp2
              go_ret
              exact ⟨by rw [HF.out]; rfl, HBB.out _ HG1.out⟩
            · by_cases g4 : 4 < y
              · have HR : Hid (attrE M s y = 12) := by show _ = _; rw [HD0.out, if_pos (.inr g4)]
                have HF : Hid (ve = 12) := by show _ = _; rw [HE.out (by rw [HR.out]; decide), HR.out]
                go_wp2
                go_ret
                exact ⟨by rw [HF.out]; rfl, HBB.out _ HG1.out⟩
              · have HR : Hid (attrsTo M0 an ty (k + 1) = 0) := by show _ = _; rw [HT.out, HD0.out, if_neg (by omega)]
                have HM2 : Hid (NamesAt w1 w.heap.size (metK M0 an (k + 1))) := by show NamesAt _ _ _; rw [HSx.out]; exact HM1.out
                go_wp2
                go_roundw
                case rel => exact ⟨k + 1, by omega, by go_num, HR.out, HG1.out, HM2.out⟩
                case measure => simp [intOf]; omega
          · have HD0 : Hid (attrE M s y = 11) := by
              show _ = _
              rw [attrE, if_neg]
              simp only [Bool.and_eq_true, Bool.not_eq_true']
              exact ht
            have HF : Hid (ve = 11) := by show _ = _; rw [HE.out (by rw [HD0.out]; decide), HD0.out]
            have hno : nameB s = false ∨ inN M s = true := by
              cases h1 : nameB s
              · exact .inl rfl
              · cases h2 : inN M s
                · exact absurd ⟨h1, h2⟩ ht
                · exact .inr rfl
            have HTk := Lib.hid (s_takes_no w.heap.size M s _ HA.out hno)
            clear ht hno hMK
            go_wp2_with fail
            refine HTk.out.mono ?_
            rintro e w1 ⟨rfl, rfl⟩
            go_wp2
            go_ret
            exact ⟨by rw [HF.out]; rfl, HBB.out _ HG.out⟩
        · obtain rfl : k = m := by omega
          go_wp2
          go_ret
          exact ⟨by rw [HV.out, HK.out.1]; rfl, HBB.out _ HK.out.2.1⟩
  · rw [if_pos h0] at HV
    have h1 : (dimsEr [] nm lo hi n != 0) = true := by rw [bne_iff_ne]; exact h0
    have HV2 : Hid (ve = dimsEr [] nm lo hi n) := HV.out
    clear h0 HV
    generalize dimsEr [] nm lo hi n = E at *
    go_enter Tryz.func75, Tryz.ntmps75
    go_wp2_with (first | (go_at_call 112; refine HD.out.mono ?_; rintro e w1 ⟨rfl, hg1, hN1⟩))
    go_ret
    exact ⟨by rw [HV2.out]; rfl, HBB.out _ hg1⟩
end Go.Proofs.YtogmbehomilalaaGreatDoor
