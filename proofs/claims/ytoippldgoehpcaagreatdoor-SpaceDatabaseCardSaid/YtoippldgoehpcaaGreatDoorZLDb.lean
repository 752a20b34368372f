/- The walk of SpaceDatabase. -/
import Derived.Test.YtoippldgoehpcaaGreatDoorZEqR
import Derived.Test.YtoippldgoehpcaaGreatDoorZLS
namespace Go.Proofs.YtoippldgoehpcaaGreatDoor
open Go Go.RowKit Go.Deep

theorem noAr_ok : ArOk noAr := ⟨Nat.zero_le _, Nat.zero_le _, Nat.zero_le _, fun k hk => absurd hk (Nat.not_lt_zero k), fun k hk => absurd hk (Nat.not_lt_zero k), fun k hk => absurd hk (Nat.not_lt_zero k)⟩
theorem find_same {nm : Nat → ByteArray} {D : Nat → ArD} {N : Nat} {s : ByteArray} {is is' : Bool} {E E' : ArD} (ho : DbOk N nm D)
    (h : (is = true ∧ dbZ nm D N = 0 ∧ ∃ k, k < N ∧ nm k = s ∧ (∀ j, j < k → nm j ≠ s) ∧ E = D k) ∨ (is = false ∧ (dbZ nm D N ≠ 0 ∨ ∀ j, j < N → nm j ≠ s) ∧ E = noAr))
    (h' : (is' = true ∧ dbZ nm D N = 0 ∧ ∃ k, k < N ∧ nm k = s ∧ (∀ j, j < k → nm j ≠ s) ∧ E' = D k) ∨ (is' = false ∧ (dbZ nm D N ≠ 0 ∨ ∀ j, j < N → nm j ≠ s) ∧ E' = noAr)) : is = is' ∧ E = E' ∧ ArOk E := by
  rcases h with ⟨rfl, h1, k, h2, h3, h4, rfl⟩ | ⟨rfl, h1, rfl⟩ <;> rcases h' with ⟨rfl, g1, k', g2, g3, g4, rfl⟩ | ⟨rfl, g1, rfl⟩
  · have e : k = k' := by
      rcases Nat.lt_trichotomy k k' with h | h | h
      · exact absurd h3 (g4 k h)
      · exact h
      · exact absurd g3 (h4 k' h)
    subst e
    exact ⟨rfl, rfl, (ho k h2).2⟩
  · rcases g1 with g1 | g1
    · exact absurd h1 g1
    · exact absurd h3 (g1 k h2)
  · rcases h1 with h1 | h1
    · exact absurd g1 h1
    · exact absurd g3 (h1 k' g2)
  · exact ⟨rfl, rfl, noAr_ok⟩

set_option maxRecDepth 100000 in
set_option maxHeartbeats 8000000 in
theorem l_database (w : World) (A : Option Addr) (N cap : Nat) (nm : Nat → ByteArray) (P : Nat → ArP) (D : Nat → ArD) (s : ByteArray) (h : DbR w A N nm P D) (hs : ∀ k, k < N → (nm k).size ≤ 9223372036854775807) (hsn : s.size ≤ 9223372036854775807) (hw : WorksAt w) :
    Calls Tryz.prog 7 #[.slice A N cap, .string s] w fun e w' => e = .returned (.bool true) ∧ Below w.heap.size w w' := by
  have HW := Lib.hid hw
  have HD := Lib.hid h
  have HS := Lib.hid hs
  have HSh := Lib.hid (l_short s hsn)
  have HL := Lib.hid l_short
  have HOk : Hid ((∀ k, k < N → FewD (D k) 20) → DbAt w A N nm P D ∧ DbOk N nm D) := fun hf => DbR.ok h hs hf (by decide)
  clear hw h hs
  go_enter Tryz.func7, Tryz.ntmps7
  by_cases h20 : (N : Int) > 20
  · go_wp2_with fail
    refine (HW.out _ (Below.refl _ _)).mono ?_
    rintro e w1 ⟨rfl, hb1⟩
    go_wp2
    go_ret
    exact ⟨rfl, hb1⟩
  · by_cases h5 : s.size ≤ 40
    · rw [decide_eq_true h5] at HSh
      clear h5
      go_wp2_with fail
      refine (HSh.out _).mono ?_
      rintro e w1 ⟨rfl, rfl⟩
      go_wp2_with fail
      go_loopw [5] (fun i wr => ∃ k : Nat, k ≤ N ∧ i = .int .i64 k ∧ Hid (∀ j, j < k → FewD (D j) 20) ∧ Hid (Below w1.heap.size w1 wr)) (fun i _ => N - (intOf i).toNat)
      case atStart => exact ⟨0, Nat.zero_le _, rfl, fun j hj => absurd hj (by omega), Below.refl _ _⟩
      case round =>
        obtain ⟨k, hk, rfl, HK, HB⟩ := hrel
        by_cases hlt : k < N
        · obtain ⟨bd, o, rfl, hbd, hc⟩ := (HD.out.below HB.out) (by omega)
          obtain ⟨⟨c0, c1, c2, c3⟩, hAr⟩ := hc k hlt
          clear hc
          have hk0 : (0 : Int) ≤ (k : Int) := by omega
          have hkN : (k : Int) < (N : Int) := by omega
          have HSk := Lib.hid (HL.out (nm k) (HS.out k hlt))
          have HF : Hid (Calls Tryz.prog 15 #[(P k).val (D k).n (D k).m (D k).N, .int .i64 20] wr fun e w' => (e = .returned (.bool false) ∨ e = .returned (.bool true) ∧ FewD (D k) 20) ∧ Below wr.heap.size wr w') := al_Few wr (P k) (D k) 20 hAr (by decide)
          have HNx : Hid (FewD (D k) 20 → ∀ j, j < k + 1 → FewD (D j) 20) := fun h j hj => by
            by_cases e : j = k
            · rw [e]; exact h
            · exact HK.out j (by omega)
          generalize nm k = t at *
          by_cases h6 : t.size ≤ 40
          · rw [decide_eq_true h6] at HSk
            clear h6 hAr
            go_wp2_with fail
            refine (HSk.out _).mono ?_
            rintro e w2 ⟨rfl, rfl⟩
            go_wp2_with fail
            refine HF.out.mono ?_
            rintro e w3 ⟨he, hb3⟩
            have HB3 : Hid (Below w1.heap.size w1 w3) := st HB.out hb3
            rcases he with rfl | ⟨rfl, hf⟩
            · go_wp2_with fail
              refine (HW.out _ HB3.out).mono ?_
              rintro e w4 ⟨rfl, hb4⟩
              go_wp2
              go_ret
              exact ⟨rfl, st HB3.out hb4⟩
            · have HN1 := Lib.hid (HNx.out hf)
              clear hf
              go_wp2
              go_roundw
              case rel => exact ⟨k + 1, by omega, by go_num, HN1.out, HB3.out⟩
              case measure => simp [intOf]; omega
          · rw [decide_eq_false h6] at HSk
            clear h6 hAr HF
            go_wp2_with fail
            refine (HSk.out _).mono ?_
            rintro e w2 ⟨rfl, rfl⟩
            go_wp2_with fail
            refine (HW.out _ HB.out).mono ?_
            rintro e w4 ⟨rfl, hb4⟩
            go_wp2
            go_ret
            exact ⟨rfl, st HB.out hb4⟩
        · obtain rfl : k = N := by omega
          obtain ⟨hDb, hDo⟩ := HOk.out HK.out
          have HF1 : Hid (∀ W, Below w1.heap.size w1 W → Calls Tryz.prog 34 #[.slice A k cap, .string s] W fun e w' => FindR nm D k s e w' ∧ Below W.heap.size W w') := fun W hW => s_Find W A k cap nm P D s (hDb.below hW) hDo
          have HF2 : Hid (∀ W, Below w1.heap.size w1 W → Calls Tryz.prog 35 #[.slice A k cap, .string s] W fun e w' => FindR nm D k s e w' ∧ Below W.heap.size W w') := fun W hW => r_Find W A k cap nm P D s (hDb.below hW) hDo
          have HD1 : Hid (∀ W, Below w1.heap.size w1 W → Calls Tryz.prog 25 #[.slice A k cap] W fun e w' => e = .returned (.int .i64 (dbZ nm D k)) ∧ Below W.heap.size W w') := fun W hW => s_Database W A k cap nm P D (hDb.below hW) hDo
          have HD2 : Hid (∀ W, Below w1.heap.size w1 W → Calls Tryz.prog 36 #[.slice A k cap] W fun e w' => e = .returned (.int .i64 (dbZ nm D k)) ∧ Below W.heap.size W w') := fun W hW => r_Database W A k cap nm P D (hDb.below hW) hDo
          have HDo := Lib.hid hDo
          clear hDb hDo HOk HS HD HL HSh
          go_wp2_with fail
          refine (HF1.out _ HB.out).mono ?_
          rintro e w2 ⟨hf1, hb2⟩
          obtain ⟨is, q, E, rfl, ha1, ho1⟩ := hf1
          have HB2 : Hid (Below w1.heap.size w1 w2) := st HB.out hb2
          have HA1 := Lib.hid ha1
          have HO1 := Lib.hid ho1
          clear ha1 ho1
          have B1 : Below w2.heap.size w2 (w2.alloc (q.obj E.n E.m E.N)) := (Below.refl _ _).alloc (Nat.le_refl _) _
          have HB2' := Lib.hid (st HB2.out B1)
          have KX := Lib.hid (heap_alloc_new w2 (q.obj E.n E.m E.N))
          have HA1' := Lib.hid (HA1.out.below B1)
          have hx : w2.heap.size < (w2.alloc (q.obj E.n E.m E.N)).heap.size := by simp
          go_wp2_with fail
          generalize w2.alloc (q.obj E.n E.m E.N) = w2' at *
          refine (HF2.out _ HB2'.out).mono ?_
          rintro e w3 ⟨hf2, hb3⟩
          obtain ⟨is', q', E', rfl, ha2, ho2⟩ := hf2
          obtain ⟨rfl, rfl, hEo⟩ := find_same HDo.out HO1.out ho2
          have HB3 : Hid (Below w1.heap.size w1 w3) := st HB2'.out hb3
          have B2 : Below w3.heap.size w3 (w3.alloc (q'.obj E.n E.m E.N)) := (Below.refl _ _).alloc (Nat.le_refl _) _
          have HB4 : Hid (Below w1.heap.size w1 (w3.alloc (q'.obj E.n E.m E.N))) := st HB3.out B2
          have KX4 := Lib.hid ((B2.block _ (by have := hb3.size; omega)).trans ((hb3.block _ hx).trans KX.out))
          have KY4 := Lib.hid (heap_alloc_new w3 (q'.obj E.n E.m E.N))
          have HA14 := Lib.hid ((HA1'.out.below hb3).below B2)
          have HA24 := Lib.hid (ha2.below B2)
          have hx4 : w2.heap.size < w3.heap.size := Nat.lt_of_lt_of_le hx hb3.size
          have hy4 : w3.heap.size < (w3.alloc (q'.obj E.n E.m E.N)).heap.size := by simp
          have HEq : Hid (∀ W, Below (w3.alloc (q'.obj E.n E.m E.N)).heap.size (w3.alloc (q'.obj E.n E.m E.N)) W → Calls Tryz.prog 24 #[q.val E.n E.m E.N, q'.val E.n E.m E.N] W fun e w' => e = .returned (.bool (eqAr E E)) ∧ Below W.heap.size W w') := fun W hW => ar_Equal W q q' E E (HA14.out.below hW) hEo (HA24.out.below hW) hEo
          rw [eqAr_refl] at HEq
          clear ha2 ho2 hb3 B2 hEo HA14 HA24 HA1 HA1' HO1 B1 KX hx HB2 HB2' HF1 HF2 HB3
          generalize dbZ nm D k = z at *
          have hzz : (z == z) = true := beq_self_eq_true z
          have hib : (is == is) = true := by simp
          go_wp2_with fail
          generalize w3.alloc (q'.obj E.n E.m E.N) = w4 at *
          refine (HD1.out _ HB4.out).mono ?_
          rintro e w5 ⟨rfl, hb5⟩
          have HB5 : Hid (Below w1.heap.size w1 w5) := st HB4.out hb5
          have HB45 := Lib.hid hb5
          clear hb5
          go_wp2_with fail
          refine (HD2.out _ HB5.out).mono ?_
          rintro e w6 ⟨rfl, hb6⟩
          have HB6 : Hid (Below w1.heap.size w1 w6) := st HB5.out hb6
          have HB46 : Hid (Below w4.heap.size w4 w6) := st HB45.out hb6
          obtain ⟨⟨x0, x1, x2⟩, -⟩ := three_at ((HB46.out.block _ (by omega)).trans KX4.out)
          obtain ⟨⟨y0, y1, y2⟩, -⟩ := three_at ((HB46.out.block _ (by omega)).trans KY4.out)
          clear hb6 HB45
          go_wp2_with fail
          refine (HEq.out _ HB46.out).mono ?_
          rintro e w7 ⟨rfl, hb7⟩
          have HB7 : Hid (Below w1.heap.size w1 w7) := st HB6.out hb7
          clear hb7 x0 x1 x2 y0 y1 y2
          go_wp2_with fail
          refine (HW.out _ HB7.out).mono ?_
          rintro e w8 ⟨rfl, hb8⟩
          go_wp2
          go_ret
          exact ⟨rfl, st HB7.out hb8⟩
    · rw [decide_eq_false h5] at HSh
      clear h5
      go_wp2_with fail
      refine (HSh.out _).mono ?_
      rintro e w1 ⟨rfl, rfl⟩
      go_wp2_with fail
      refine (HW.out _ (Below.refl _ _)).mono ?_
      rintro e w1 ⟨rfl, hb1⟩
      go_wp2
      go_ret
      exact ⟨rfl, hb1⟩
end Go.Proofs.YtoippldgoehpcaaGreatDoor
