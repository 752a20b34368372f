/- ExactTyped: whatever the operation, the types and the values, where the types have a result type, values that fit them have a result, which fits it: the law returns true. Its row lists package-level variables of Go's library, tied to the program's text by the card. -/
import Derived.Test.YthppcklegdnjdaaGreatDoorZDoU
import Derived.Test.YthppcklegdnjdaaGreatDoorZWk
import Derived.Test.YthppcklegdnjdaaGreatDoorZDoG
import Derived.Test.YthppcklegdnjdaaGreatDoorZRow
import Derived.ChangeArms
import Derived.ChangeSlices
import Derived.Test.YthppcklegdnjdaaGreatDoorTie
import Derived.Test.YthppcklegdnjdaaGreatDoorCards
import Derived.SevenTiedAt

/- ExactTyped: the whole walk of the law. -/
section
namespace Go.Proofs.YthppcklegdnjdaaGreatDoor
open Go Go.RowKit Go.Deep Go.Shelf

/-- The type of a result, where the types have one. -/
def tyOf (op sh : Int) : Int := if rowR op = 0 then sh else rowR op
theorem do_typed (w : World) (op : Int) (A : Option Addr) (n cap : Nat) (kk nn dd ts : Nat → Int) (ss : Nat → ByteArray) (sh : Int) (h1 : opn op = n) (h2 : n ≠ 0) (hv : Vals w A n kk nn dd ss) (ha : allTy n ts) (hg : ∀ k, k < n → Good (kk k) (nn k) (dd k) (ss k))
    (hf : ∀ k, k < n → fitB (kk k) (dd k) (ts k) = true) (hT : foldT (rowN op) ts n = some sh) : Res w op A n cap (tyOf op sh) := by
  have hk : op = 4 ∨ op = 5 ∨ op = 6 ∨ op = 7 ∨ op = 8 ∨ op = 9 ∨ op = 10 ∨ op = 11 ∨ op = 12 ∨ op = 13 ∨ op = 14 ∨ op = 15 ∨ op = 16 ∨ op = 17 ∨ op = 18 ∨ op = 19 ∨ op = 20 ∨ op = 21 ∨ op = 22 := by unfold opn at h1; split at h1 <;> omega
  rcases hk with rfl | rfl | rfl | rfl | rfl | rfl | rfl | rfl | rfl | rfl | rfl | rfl | rfl | rfl | rfl | rfl | rfl | rfl | rfl
  · obtain rfl : n = 1 := by simp [opn] at h1; omega
    exact t_op4 w A cap kk nn dd ts ss sh hv ha hg hf hT
  · obtain rfl : n = 1 := by simp [opn] at h1; omega
    exact t_op5 w A cap kk nn dd ts ss sh hv ha hg hf hT
  · obtain rfl : n = 1 := by simp [opn] at h1; omega
    exact t_op6 w A cap kk nn dd ts ss sh hv ha hg hf hT
  · obtain rfl : n = 1 := by simp [opn] at h1; omega
    exact t_op7 w A cap kk nn dd ts ss sh hv ha hg hf hT
  · obtain rfl : n = 1 := by simp [opn] at h1; omega
    exact t_op8 w A cap kk nn dd ts ss sh hv ha hg hf hT
  · obtain rfl : n = 2 := by simp [opn] at h1; omega
    exact t_op9 w A cap kk nn dd ts ss sh hv ha hg hf hT
  · obtain rfl : n = 2 := by simp [opn] at h1; omega
    exact t_op10 w A cap kk nn dd ts ss sh hv ha hg hf hT
  · obtain rfl : n = 2 := by simp [opn] at h1; omega
    exact t_op11 w A cap kk nn dd ts ss sh hv ha hg hf hT
  · obtain rfl : n = 2 := by simp [opn] at h1; omega
    exact t_op12 w A cap kk nn dd ts ss sh hv ha hg hf hT
  · obtain rfl : n = 2 := by simp [opn] at h1; omega
    exact t_op13 w A cap kk nn dd ts ss sh hv ha hg hf hT
  · obtain rfl : n = 2 := by simp [opn] at h1; omega
    exact t_op14 w A cap kk nn dd ts ss sh hv ha hg hf hT
  · obtain rfl : n = 2 := by simp [opn] at h1; omega
    exact t_op15 w A cap kk nn dd ts ss sh hv ha hg hf hT
  · obtain rfl : n = 2 := by simp [opn] at h1; omega
    exact t_op16 w A cap kk nn dd ts ss sh hv ha hg hf hT
  · obtain rfl : n = 2 := by simp [opn] at h1; omega
    exact t_op17 w A cap kk nn dd ts ss sh hv ha hg hf hT
  · obtain rfl : n = 2 := by simp [opn] at h1; omega
    exact t_op18 w A cap kk nn dd ts ss sh hv ha hg hf hT
  · obtain rfl : n = 2 := by simp [opn] at h1; omega
    exact t_op19 w A cap kk nn dd ts ss sh hv ha hg hf hT
  · obtain rfl : n = 2 := by simp [opn] at h1; omega
    exact t_op20 w A cap kk nn dd ts ss sh hv ha hg hf hT
  · obtain rfl : n = 2 := by simp [opn] at h1; omega
    exact t_op21 w A cap kk nn dd ts ss sh hv ha hg hf hT
  · obtain rfl : n = 3 := by simp [opn] at h1; omega
    exact t_op22 w A cap kk nn dd ts ss sh hv ha hg hf hT
theorem isTy_of (op : Int) (n : Nat) (ts : Nat → Int) (sh : Int) (h1 : opn op = n) (h2 : n ≠ 0) (ha : allTy n ts) (hT : foldT (rowN op) ts n = some sh) : isTy (tyOf op sh) = true := by
  by_cases hr : op = 5 ∨ op = 9 ∨ op = 10 ∨ op = 11 ∨ op = 21 ∨ op = 22
  · rcases hr with rfl | rfl | rfl | rfl | rfl | rfl
    · obtain rfl : n = 1 := by simp [opn] at h1; omega
      obtain ⟨_, rfl⟩ := L_num1 ha hT
      exact ha 0 (by omega)
    · obtain rfl : n = 2 := by simp [opn] at h1; omega
      obtain ⟨_, _, h | ⟨h, _⟩⟩ := L_num2 ha hT <;> (subst h; rfl)
    · obtain rfl : n = 2 := by simp [opn] at h1; omega
      obtain ⟨_, _, h | ⟨h, _⟩⟩ := L_num2 ha hT <;> (subst h; rfl)
    · obtain rfl : n = 2 := by simp [opn] at h1; omega
      obtain ⟨_, _, h | ⟨h, _⟩⟩ := L_num2 ha hT <;> (subst h; rfl)
    · obtain rfl : n = 2 := by simp [opn] at h1; omega
      rw [show rowN 21 = n3 4 4 0 from rfl] at hT
      rw [show tyOf 21 sh = sh from rfl]
      rcases tyFour (ha 0 (by omega)) with e | e | e | e <;> rcases tyFour (ha 1 (by omega)) with f | f | f | f <;> simp [foldT, stepT, n3, isNum, cmT, e, f] at hT <;> subst hT <;> rfl
    · obtain rfl : n = 3 := by simp [opn] at h1; omega
      rw [show rowN 22 = n3 2 4 4 from rfl] at hT
      rw [show tyOf 22 sh = sh from rfl]
      rcases tyFour (ha 0 (by omega)) with g | g | g | g <;> rcases tyFour (ha 1 (by omega)) with e | e | e | e <;> rcases tyFour (ha 2 (by omega)) with f | f | f | f <;> simp [foldT, stepT, n3, isNum, cmT, e, f, g] at hT <;> subst hT <;> rfl
  · have hn : rowR op = 1 ∨ rowR op = 2 ∨ rowR op = 3 := by
      have hk : op = 4 ∨ op = 5 ∨ op = 6 ∨ op = 7 ∨ op = 8 ∨ op = 9 ∨ op = 10 ∨ op = 11 ∨ op = 12 ∨ op = 13 ∨ op = 14 ∨ op = 15 ∨ op = 16 ∨ op = 17 ∨ op = 18 ∨ op = 19 ∨ op = 20 ∨ op = 21 ∨ op = 22 := by
        unfold opn at h1; split at h1 <;> omega
      unfold rowR
      split
      · exact .inl rfl
      · split
        · exact .inr (.inl rfl)
        · split
          · exact .inr (.inr rfl)
          · omega
    unfold tyOf
    rcases hn with h | h | h <;> rw [h] <;> rfl
theorem ltc_of_cell {w : World} {b o : Nat} {v : Value} (h : w.cell? ⟨b, o, none⟩ = some v) : b < w.heap.size := by
  by_cases hb : b < w.heap.size
  · exact hb
  · have : w.heap[b]? = none := Array.getElem?_eq_none (by omega)
    simp [World.cell?, this] at h

set_option maxRecDepth 100000 in
set_option maxHeartbeats 8000000 in
theorem l_typed (w : World) (op : Int) (A : Option Addr) (n1 c1 : Nat) (ts : Nat → Int) (h : Ints w A n1 ts) (B : Option Addr) (n2 c2 : Nat) (kk nn dd : Nat → Int) (ss : Nat → ByteArray) (hv : Vals w B n2 kk nn dd ss)
    (m : Int) (hm : w.cell? ⟨0, 0, none⟩ = some (.int .i64 m)) :
    Calls Tryz.prog 5 #[.int .i64 op, .slice A n1 c1, .slice B n2 c2] w fun e w' => e = .returned (.bool true) ∧ Below w.heap.size w w' := by
  have WK : Hid (∀ W, Below w.heap.size w W → Calls Tryz.prog 6 #[] W fun e w' => e = .returned (.bool true) ∧ Below W.heap.size W w') := fun W hw => c_works W m ((hw.cell (p := ⟨0, 0, none⟩) (ltc_of_cell hm)).trans hm)
  clear hm
  by_cases hl : n1 ≤ 3 ∧ n2 = n1
  · obtain ⟨hl, rfl⟩ := hl
    have i1 : ((3 : Int) < (n2 : Int)) = False := by simp; omega
    by_cases ho : opn op = n2 ∧ n2 ≠ 0
    · by_cases ha : allTy n2 ts
      · cases hT : foldT (rowN op) ts n2 with
        | none =>
          have HTy : Hid (∀ W, Below w.heap.size w W → Calls Tryz.prog 16 #[.int .i64 op, .slice A n2 c1] W fun e w' => e = .returned (.tuple #[.int .i64 0, .int .i64 12]) ∧ Below W.heap.size W w') := fun W hW => (c_Type W op A n2 c1 ts (h.below hW) ho.1 ho.2).mono fun e w' ⟨⟨q, _⟩, hb⟩ => ⟨by rw [q ha, hT]; rfl, hb⟩
          clear h hv ho ha hT
          go_enter Tryz.func5, Tryz.ntmps5
          go_wp2_with fail
          refine (HTy.out _ (Below.refl _ _)).mono ?_
          rintro e w1 ⟨rfl, hb1⟩
          go_wp2_with fail
          refine (WK.out _ hb1).mono ?_
          rintro e w2 ⟨rfl, hb⟩
          go_wp2
          go_ret
          exact ⟨rfl, btr hb1 hb⟩
        | some sh =>
          have HTy : Hid (∀ W, Below w.heap.size w W → Calls Tryz.prog 16 #[.int .i64 op, .slice A n2 c1] W fun e w' => e = .returned (.tuple #[.int .i64 (tyOf op sh), .int .i64 0]) ∧ Below W.heap.size W w') := fun W hW => (c_Type W op A n2 c1 ts (h.below hW) ho.1 ho.2).mono fun e w' ⟨⟨q, _⟩, hb⟩ => ⟨by
            rw [q ha, hT]
            unfold tyRes tyOf
            by_cases h9 : rowR op = 0
            · simp [h9]
            · simp [h9], hb⟩
          have HDo : Hid (∀ W, Below w.heap.size w W → (∀ k, k < n2 → Good (kk k) (nn k) (dd k) (ss k)) → (∀ k, k < n2 → fitB (kk k) (dd k) (ts k) = true) → Res W op B n2 c2 (tyOf op sh)) := fun W hW hg hf => do_typed W op B n2 c2 kk nn dd ts ss sh ho.1 ho.2 (hv.below hW) ha hg hf hT
          have HIs : Hid (isTy (tyOf op sh) = true) := by
            exact isTy_of op n2 ts sh ho.1 ho.2 ha hT
          generalize tyOf op sh = T at *
          have HI : Hid (∀ W, Below w.heap.size w W → ∀ k, k < n2 → ∃ b o, A = some ⟨b, o, none⟩ ∧ W.cell? ⟨b, o + k, none⟩ = some (.int .i64 (ts k))) := fun W hW k hk => by
            obtain ⟨b, o, e1, e2, e3⟩ := (h.below hW) (by omega)
            exact ⟨b, o, e1, e3 k hk⟩
          have HVl : Hid (∀ W, Below w.heap.size w W → ∀ k, k < n2 → ∃ b o, B = some ⟨b, o, none⟩ ∧ ValIn W b (o + k * 4) (kk k) (nn k) (dd k) (ss k)) := fun W hW k hk => by
            obtain ⟨b, o, e1, e2, e3⟩ := (hv.below hW) (by omega)
            exact ⟨b, o, e1, e3 k hk⟩
          have HA := Lib.hid ha
          clear h hv ho hT ha
          go_enter Tryz.func5, Tryz.ntmps5
          go_wp2_with fail
          refine (HTy.out _ (Below.refl _ _)).mono ?_
          rintro e w1 ⟨rfl, hb1⟩
          have B1 : Hid (Below w.heap.size w w1) := hb1
          clear hb1 HTy
          go_wp2_with fail
          go_loopw [9] (fun i wr => ∃ k : Nat, k ≤ n2 ∧ i = .int .i64 k ∧ Hid (Below w.heap.size w wr) ∧ Hid (∀ j, j < k → okB (kk j) (nn j) (dd j) (ss j) = true ∧ fitB (kk j) (dd j) (ts j) = true)) (fun i _ => n2 - (intOf i).toNat)
          case atStart => exact ⟨0, by omega, rfl, B1.out, fun j hj => absurd hj (by omega)⟩
          case round =>
            obtain ⟨k, hk, rfl, HB, HJ⟩ := hrel
            by_cases hlt : k < n2
            · obtain ⟨b, o, rfl, d0⟩ := HI.out _ HB.out k hlt
              obtain ⟨b', o', rfl, d1, d2, d3, d4⟩ := HVl.out _ HB.out k hlt
              have HFt := Lib.hid (fun W => k_Fits (kk k) (nn k) (dd k) (ss k) (ts k) W)
              have KK : Hid (∀ W, Below wr.heap.size wr W → W.cell? ⟨b, o + k, none⟩ = some (.int .i64 (ts k)) ∧ W.cell? ⟨b', o' + k * 4, none⟩ = some (.int .i64 (kk k)) ∧ W.cell? ⟨b', o' + k * 4 + 1, none⟩ = some (.int .i64 (nn k)) ∧ W.cell? ⟨b', o' + k * 4 + 2, none⟩ = some (.int .i64 (dd k)) ∧ W.cell? ⟨b', o' + k * 4 + 3, none⟩ = some (.string (ss k))) := fun W hW => by
                obtain ⟨b9, o9, q1, q2⟩ := HI.out W (btr HB.out hW) k hlt
                cases q1
                obtain ⟨b8, o8, q3, q4, q5, q6, q7⟩ := HVl.out W (btr HB.out hW) k hlt
                cases q3
                exact ⟨q2, q4, q5, q6, q7⟩
              have Bd : Below wr.heap.size wr wr.drew := Below.drew (Below.refl _ _)
              clear d0 d1 d2 d3 d4
              have hkk : (k : Int) < (n2 : Int) := by omega
              cases hr : (isTy (ts k) && (okB (kk k) (nn k) (dd k) (ss k) && fitB (kk k) (dd k) (ts k))) with
              | true =>
                rw [hr] at HFt
                have HN : Hid (∀ j, j < k + 1 → okB (kk j) (nn j) (dd j) (ss j) = true ∧ fitB (kk j) (dd j) (ts j) = true) := fun j hj => by
                  by_cases hjk : j = k
                  · subst hjk
                    simp only [Bool.and_eq_true] at hr
                    exact hr.2
                  · exact HJ.out j (by omega)
                clear hr HJ
                generalize kk k = x1 at KK HFt
                generalize nn k = x2 at KK HFt
                generalize dd k = x3 at KK HFt
                generalize ss k = x4 at KK HFt
                generalize ts k = x5 at KK HFt
                go_wp2_with fail
                go_region_held3 (fun w' => w'.cell? ⟨b, o + k, none⟩ = some (.int .i64 x5) ∧ w'.cell? ⟨b', o' + k * 4, none⟩ = some (.int .i64 x1) ∧ w'.cell? ⟨b', o' + k * 4 + 1, none⟩ = some (.int .i64 x2) ∧ w'.cell? ⟨b', o' + k * 4 + 2, none⟩ = some (.int .i64 x3) ∧ w'.cell? ⟨b', o' + k * 4 + 3, none⟩ = some (.string x4))
                  (first | exact KK.out _ B2 | exact KK.out _ Bd | exact KK.out _ (Below.refl _ _)) (first
                    | (go_at_call 17; refine (HFt.out _).mono ?_; rintro e w2 ⟨rfl, hb2⟩; have B2 : Below wr.heap.size wr w2 := btr Bd hb2))
                have HB2 : Hid (Below w.heap.size w w2) := btr HB.out B2
                clear hb2 HFt KK B2
                go_wp2
                go_roundw
                case rel => exact ⟨k + 1, by omega, by go_num, HB2, HN⟩
                case measure => simp [intOf]; omega
              | false =>
                rw [hr] at HFt
                clear hr HJ
                generalize kk k = x1 at KK HFt
                generalize nn k = x2 at KK HFt
                generalize dd k = x3 at KK HFt
                generalize ss k = x4 at KK HFt
                generalize ts k = x5 at KK HFt
                go_wp2_with fail
                go_region_held3 (fun w' => w'.cell? ⟨b, o + k, none⟩ = some (.int .i64 x5) ∧ w'.cell? ⟨b', o' + k * 4, none⟩ = some (.int .i64 x1) ∧ w'.cell? ⟨b', o' + k * 4 + 1, none⟩ = some (.int .i64 x2) ∧ w'.cell? ⟨b', o' + k * 4 + 2, none⟩ = some (.int .i64 x3) ∧ w'.cell? ⟨b', o' + k * 4 + 3, none⟩ = some (.string x4))
                  (first | exact KK.out _ B2 | exact KK.out _ Bd | exact KK.out _ (Below.refl _ _)) (first
                    | (go_at_call 17; refine (HFt.out _).mono ?_; rintro e w2 ⟨rfl, hb2⟩; have B2 : Below wr.heap.size wr w2 := btr Bd hb2))
                have HB2 : Hid (Below w.heap.size w w2) := btr HB.out B2
                clear hb2 HFt KK B2
                go_wp2_with fail
                refine (WK.out _ HB2.out).mono ?_
                rintro e w3 ⟨rfl, hb3⟩
                go_wp2
                go_ret
                exact ⟨rfl, btr HB2.out hb3⟩
            · obtain rfl : k = n2 := by omega
              obtain ⟨rk, rn, rd, rs, g1, g2, g3⟩ := HDo.out wr HB.out (fun j hj => okB_good.1 (HJ.out j hj).1) (fun j hj => (HJ.out j hj).2)
              have HD := Lib.hid g3
              have HFt := Lib.hid (fun W => k_Fits rk rn rd rs T W)
              rw [HIs.out, okB_good.2 g1, g2] at HFt
              have e9 : (true && (true && true)) = true := rfl
              rw [e9] at HFt
              clear g1 g2 g3 HJ e9
              go_wp2_with fail
              refine HD.out.mono ?_
              rintro e w2 ⟨rfl, hb2⟩
              have HB2 : Hid (Below w.heap.size w w2) := btr HB.out hb2
              clear hb2 HD
              go_wp2_with fail
              have HB3 : Hid (Below w.heap.size w (w2.alloc (.cells #[.int .i64 rk, .int .i64 rn, .int .i64 rd, .string rs] 24))) := HB2.out.alloc HB2.out.size _
              refine (HFt.out _).mono ?_
              rintro e w3 ⟨rfl, hb3⟩
              have HB4 : Hid (Below w.heap.size w w3) := btr HB3.out hb3
              clear hb3 HB3 HFt
              go_wp2_with fail
              refine (WK.out _ HB4.out).mono ?_
              rintro e w4 ⟨rfl, hb4⟩
              go_wp2
              go_ret
              exact ⟨rfl, btr HB4.out hb4⟩
      · have HTy : Hid (∀ W, Below w.heap.size w W → Calls Tryz.prog 16 #[.int .i64 op, .slice A n2 c1] W fun e w' => e = .returned (.tuple #[.int .i64 0, .int .i64 2]) ∧ Below W.heap.size W w') := fun W hW => (c_Type W op A n2 c1 ts (h.below hW) ho.1 ho.2).mono fun e w' ⟨⟨_, q⟩, hb⟩ => ⟨q ha, hb⟩
        clear h hv ho ha
        go_enter Tryz.func5, Tryz.ntmps5
        go_wp2_with fail
        refine (HTy.out _ (Below.refl _ _)).mono ?_
        rintro e w1 ⟨rfl, hb1⟩
        go_wp2_with fail
        refine (WK.out _ hb1).mono ?_
        rintro e w2 ⟨rfl, hb⟩
        go_wp2
        go_ret
        exact ⟨rfl, btr hb1 hb⟩
    · have HTy : Hid (∀ W, Below w.heap.size w W → Calls Tryz.prog 16 #[.int .i64 op, .slice A n2 c1] W fun e w' => e = .returned (.tuple #[.int .i64 0, .int .i64 2]) ∧ Below W.heap.size W w') := fun W hW => t_none W op A n2 c1 (by omega)
      clear h hv ho
      go_enter Tryz.func5, Tryz.ntmps5
      go_wp2_with fail
      refine (HTy.out _ (Below.refl _ _)).mono ?_
      rintro e w1 ⟨rfl, hb1⟩
      go_wp2_with fail
      refine (WK.out _ hb1).mono ?_
      rintro e w2 ⟨rfl, hb⟩
      go_wp2
      go_ret
      exact ⟨rfl, btr hb1 hb⟩
  · clear h hv
    by_cases k1 : (3 : Int) < (n1 : Int)
    · go_enter Tryz.func5, Tryz.ntmps5
      go_wp2_with fail
      refine (WK.out _ (Below.refl _ _)).mono ?_
      rintro e w1 ⟨rfl, hb⟩
      go_wp2
      go_ret
      exact ⟨rfl, hb⟩
    · have k2 : ((n2 : Int) != (n1 : Int)) = true := by rw [bne_iff_ne]; omega
      go_enter Tryz.func5, Tryz.ntmps5
      go_wp2_with fail
      refine (WK.out _ (Below.refl _ _)).mono ?_
      rintro e w1 ⟨rfl, hb⟩
      go_wp2
      go_ret
      exact ⟨rfl, hb⟩
end Go.Proofs.YthppcklegdnjdaaGreatDoor
end

/- From the row's condition to the walk: a list of values of cells. -/
section
namespace Go.Proofs.YthppcklegdnjdaaGreatDoor
open Go Go.ChangeShapes Go.WideShapes Go.ChangeAt Go.RowKit

theorem val_fields : ∃ f0 f1 f2 f3 : Field, Tryz.prog.underlying 24 = some (.struct #[f0, f1, f2, f3]) ∧ f0.type = 3 ∧ f0.offset = 0 ∧ f1.type = 2 ∧ f1.offset = 1 ∧ f2.type = 2 ∧ f2.offset = 2 ∧ f3.type = 9 ∧ f3.offset = 3 :=
  ⟨_, _, _, _, Tryz.underlying24, rfl, rfl, rfl, rfl, rfl, rfl, rfl, rfl⟩
section
variable {H : Type} {enc : TypeId × Value → H} {w : World} {base : Nat} {spare : Nat → Bool} {held : Bool}
theorem open_val {fuel : Nat} {c0 c1 c2 c3 : Value} {x : DataW H × List MemPlace} (h : DataW.trod enc Tryz.prog w base spare held fuel 24 [c0, c1, c2, c3] = some x) :
    ∃ (k n d : Int) (s : ByteArray), c0 = .int .i64 k ∧ c1 = .int .i64 n ∧ c2 = .int .i64 d ∧ c3 = .string s := by
  obtain ⟨f0, f1, f2, f3, hu, t0, o0, t1, o1, t2, o2, t3, o3⟩ := val_fields
  obtain ⟨xs, n, _, _, _, hlen, hf⟩ := DataW.trod_struct hu h
  have l0 : 0 < xs.length := by rw [hlen]; simp
  have l1 : 1 < xs.length := by rw [hlen]; simp
  have l2 : 2 < xs.length := by rw [hlen]; simp
  have l3 : 3 < xs.length := by rw [hlen]; simp
  have q0 := hf 0 f0 rfl
  have q1 := hf 1 f1 rfl
  have q2 := hf 2 f2 rfl
  have q3 := hf 3 f3 rfl
  have ci : Tryz.prog.cellsOf 3 = 1 := by kernel_rfl
  have c6 : Tryz.prog.cellsOf 2 = 1 := by kernel_rfl
  have cs : Tryz.prog.cellsOf 9 = 1 := by kernel_rfl
  rw [t0, o0, ci, List.getElem?_eq_getElem l0] at q0
  rw [t1, o1, c6, List.getElem?_eq_getElem l1] at q1
  rw [t2, o2, c6, List.getElem?_eq_getElem l2] at q2
  rw [t3, o3, cs, List.getElem?_eq_getElem l3] at q3
  obtain ⟨z0, e0, _, _⟩ := DataW.trod_int Tryz.underlying3 q0
  obtain ⟨z1, e1, _, _⟩ := DataW.trod_int Tryz.underlying2 q1
  obtain ⟨z2, e2, _, _⟩ := DataW.trod_int Tryz.underlying2 q2
  obtain ⟨z3, e3, _, _⟩ := DataW.trod_string Tryz.underlying9 q3
  exact ⟨z0, z1, z2, z3, by simpa using e0, by simpa using e1, by simpa using e2, by simpa using e3⟩

/-- The cells of a list of values. -/
theorem open_vals {fuel : Nat} {A : Option Addr} {n cap : Nat} {x : DataW H × List MemPlace} (h : DataW.trod enc Tryz.prog w base spare held fuel 44 [.slice A n cap] = some x) :
    ∃ (kk nn dd : Nat → Int) (ss : Nat → ByteArray), Vals w A n kk nn dd ss := by
  have c4 : Tryz.prog.cellsOf 24 = 4 := by kernel_rfl
  rcases DataW.trod_slice Tryz.underlying44 h with ⟨h0, _⟩ | ⟨a, len, cap', elems, rest, m, _, hcs, _, hb, hl, hm, hlen, hel, hsp, hns⟩
  · obtain ⟨rfl, rfl, rfl⟩ : A = none ∧ n = 0 ∧ cap = 0 := by simpa using h0
    exact ⟨fun _ => 0, fun _ => 0, fun _ => 0, fun _ => noS, fun h9 => absurd h9 (by omega)⟩
  · obtain ⟨rfl, rfl, rfl⟩ : A = some a ∧ n = len ∧ cap = cap' := by simpa using hcs
    have each : ∀ k, k < n → ∃ y : Int × Int × Int × ByteArray, w.cell? (a.add (k * 4)) = some (.int .i64 y.1) ∧ w.cell? ((a.add (k * 4)).add 1) = some (.int .i64 y.2.1) ∧ w.cell? ((a.add (k * 4)).add 2) = some (.int .i64 y.2.2.1) ∧ w.cell? ((a.add (k * 4)).add 3) = some (.string y.2.2.2) := by
      intro k hk
      have h1 := hel k hk
      have hk' : k < elems.length := by omega
      rw [c4, List.getElem?_eq_getElem hk', Option.bind_eq_some_iff] at h1
      obtain ⟨cs', hcs', hy⟩ := h1
      obtain ⟨_, hl2, hcell⟩ := World.cells?_some hcs'
      match cs', hl2 with
      | [c0, c1, c2, c3], _ =>
        obtain ⟨z0, z1, z2, z3, rfl, rfl, rfl, rfl⟩ := open_val hy
        exact ⟨(z0, z1, z2, z3), by simpa [Addr.add] using hcell 0 (by omega), by simpa using hcell 1 (by omega), by simpa using hcell 2 (by omega), by simpa using hcell 3 (by omega)⟩
    have pick : ∃ f : Nat → Int × Int × Int × ByteArray, ∀ k, k < n → w.cell? (a.add (k * 4)) = some (.int .i64 (f k).1) ∧ w.cell? ((a.add (k * 4)).add 1) = some (.int .i64 (f k).2.1) ∧ w.cell? ((a.add (k * 4)).add 2) = some (.int .i64 (f k).2.2.1) ∧ w.cell? ((a.add (k * 4)).add 3) = some (.string (f k).2.2.2) :=
      ⟨fun k => if hk : k < n then (each k hk).choose else (0, 0, 0, noS), fun k hk => by
        simp only [dif_pos hk]
        exact (each k hk).choose_spec⟩
    obtain ⟨f, hf⟩ := pick
    refine ⟨fun k => (f k).1, fun k => (f k).2.1, fun k => (f k).2.2.1, fun k => (f k).2.2.2, fun hn => ?_⟩
    obtain ⟨b, off, spot⟩ := a
    have hspot : spot = none := by simpa [Addr.add] using World.cell?_spot (hf 0 hn).1
    subst hspot
    refine ⟨b, off, rfl, ?_, fun k hk => ?_⟩
    · exact cell_lt (b := b) (o := off + 0 * 4) (by have := (hf 0 hn).1; rw [Go.WideShapes.add_plain] at this; exact this)
    · obtain ⟨q1, q2, q3, q4⟩ := hf k hk
      rw [Go.WideShapes.add_plain] at q1 q2 q3 q4
      rw [Go.WideShapes.add_plain] at q2 q3 q4
      exact ⟨q1, q2, q3, q4⟩
end
end Go.Proofs.YthppcklegdnjdaaGreatDoor
end

/- ExactTyped: whatever the operation, the types and the values, where the types have a result type, values that fit them have a result, which fits it: the law returns true. Its row lists package-level variables of Go's library, tied to the program's text by the card. -/
section
namespace Go.Proofs.YthppcklegdnjdaaGreatDoor
open Go.ChangeShapes Go.WideShapes Go.ChangeAt Go.RowKit

theorem cellsInt : Tryz.prog.cellsOf 3 = 1 := by kernel_rfl

set_option maxRecDepth 100000 in
theorem typed_lifted (os : Os) (started : os.Started) (H : Type) (enc : TypeId × Value → H) :
    ReturnsInHanded {} Tryz.checked os 5 .any (fun w args => (Rows.exactTypedSpec.pre enc Tryz.prog Tryz.f5 [] false w args ∧ laidMetH Tryz.prog Rows.exactTypedRow.laid w) ∧ sizedMet enc Tryz.prog Tryz.f5 (OpenSpec.ofChange Rows.exactTypedSpec) false w args)
      (Rows.exactTypedSpec.post enc Tryz.prog Tryz.f5 false true false false) := by
  refine handed_laid_shaped (C := Tryz.checked) (X := fun w _ => laidMetH Tryz.prog Rows.exactTypedRow.laid w) (fun _ _ _ hh h => h.of_heap hh) own started (by kernel_rfl) Tryz.func5
    (ChangeSpec.witness_shaped (enc := enc) (C := Tryz.checked) (os := os) (X := fun w _ => laidMetH Tryz.prog Rows.exactTypedRow.laid w) false (World.laidAll Tryz.prog os Rows.exactTypedRow.laid) #[.int .i64 0, .slice none 0 0, .slice none 0 0] 8 (World.laidAll_os _ _ _)
      (World.shaped_of_ZipB (by kernel_rfl) (by kernel_rfl)) (by kernel_rfl) (by kernel_rfl) (by kernel_rfl)
      (by rw [MakeChecks.laidMetH_plain _ _ _ (by kernel_rfl)]; exact laidMet_laidAll _ (by kernel_rfl) (by kernel_rfl))) ?_
  intro W base args ds gs before hval0 hW _ hsh
  have hval : ∀ (j : Nat) t v, Tryz.f5.params[j]? = some t → args[j]? = some v → Value.okWide Tryz.prog W .any base t v := hval0
  have hW' := hW
  obtain ⟨p, q, hA0, hV, rfl, _, _⟩ := hW
  have hA : DataW.TrodAll enc Tryz.prog W 0 (fun _ => true) true Tryz.f5.params.toList args.toList ds p := hA0
  rw [Tryz.params5] at hA hval
  obtain ⟨v0, v1, v2, d0, d1, d2, p0, p1, p2, rfl, rfl, rfl, h0, h1, h2⟩ := trodAll_three hA
  obtain ⟨rfl, rfl⟩ := trodVars_none hV
  obtain ⟨op, rfl, rfl, rfl, wop⟩ := open_int Tryz.underlying3 (hval 0 3 v0 rfl rfl) h0
  obtain ⟨A, n, cap, rfl⟩ := okWide_slice Tryz.underlying43 (hval 1 43 v1 rfl rfl)
  obtain ⟨B, n2, cap2, rfl⟩ := okWide_slice Tryz.underlying44 (hval 2 44 v2 rfl rfl)
  clear hA0 hval0
  simp only [List.append_nil, List.nil_append] at hW'
  obtain ⟨m, hm⟩ := maxLen_cell hsh
  have hlt : ∀ x ∈ p1, x.block < W.heap.size := fun x hx => hW'.lt x (by simp [hx])
  have hlt2 : ∀ x ∈ p2, x.block < W.heap.size := fun x hx => hW'.lt x (by simp [hx])
  have h2k := h2
  obtain ⟨_, f2⟩ := h2
  obtain ⟨kk, nn, dd, ss, hvs⟩ := open_vals f2
  have h1k := h1
  have hints : ∃ ts : Nat → Int, Ints W A n ts := by
    obtain ⟨fuel, hf⟩ := h1
    rcases open_ints Tryz.underlying43 Tryz.underlying3 cellsInt hf with ⟨hcs, _⟩ | ⟨a, len, cap', zs, hcs, _, hl, hm', hz, hx, hcell, _⟩
    · simp [Value.cells] at hcs
      obtain ⟨rfl, rfl, rfl⟩ := hcs
      exact ⟨fun _ => 0, fun h => absurd h (by omega)⟩
    · simp [Value.cells] at hcs
      obtain ⟨rfl, rfl, rfl⟩ := hcs
      simp only [if_true] at hz
      refine ⟨fun k => zs.getD k 0, fun hn => ?_⟩
      obtain ⟨b, o, rfl, hc⟩ := ints_at hcell (by omega)
      refine ⟨b, o, rfl, ?_, fun k hk => hc k (by omega)⟩
      exact cell_lt (hc 0 (by omega))
  obtain ⟨ts, hts⟩ := hints
  refine (l_typed W op A n cap ts hts B n2 cap2 kk nn dd ss hvs m hm).mono fun e W' ⟨he, hb⟩ => ?_
  subst he
  exact ⟨_, rfl, ⟨_, _, _, [], _, [], hW', trodAll_mk1 (shut_bool Tryz.underlying4 _), trodAll_mk3 (shut_int Tryz.underlying3 wop) (Below.trod laidOut' (by kernel_rfl) (of_decide_eq_true (by kernel_rfl)) h1k hb hlt) (Below.trod laidOut' (by kernel_rfl) (of_decide_eq_true (by kernel_rfl)) h2k hb hlt2), rfl, hb.frame _, fun h => by cases h⟩⟩

theorem typed_row : Rows.ExactTypedSaid :=
  OpenClaim.holds_of_wide 5 Tryz.f5 rfl rfl rfl rfl rfl rfl rfl ⟨rfl, rfl, rfl, rfl, rfl⟩ rfl rfl rfl rfl rfl (by kernel_rfl) Tryz.func5 (by kernel_rfl)
    (of_decide_eq_true (by kernel_rfl)) (by unfold Func.isWrapper; first | (rw [if_pos (by decide +kernel)]; kernel_rfl) | (rw [if_neg (by decide +kernel)]; exact ⟨rfl, rfl⟩))
    (fun os started H enc _ => typed_lifted os started H enc)

theorem typed_card : Rows.ExactTypedCardSaid :=
  Claim7.holds_tied_plain_at .later [] Rows.exactTypedCard.laidKinds true Rows.exactTypedCard.stood.harness true
    typed_row (fun _ h => by cases h) (by kernel_rfl) (fun _ h => by cases h) exactTyped_row_tie rfl ⟨rfl, rfl⟩ (by kernel_rfl) rfl
    (fun f fn hf hfn => by
      obtain rfl : f = 5 := Option.some.inj ((show Tryz.prog.funcNamed "tesseract/tesseractlaw01.ExactTyped" = some 5 by kernel_rfl).symm.trans hf) |>.symm
      obtain rfl : fn = Tryz.f5 := (Option.some.inj (Tryz.func5.symm.trans hfn)).symm
      exact ⟨by kernel_rfl, fun j t ht => by
        rw [Tryz.params5] at ht
        have hin : t ∈ [3, 43, 44] := by simpa using Array.mem_of_getElem? ht
        have hall : ([3, 43, 44].all fun u => !Tryz.prog.wantsStandIn u) = true := by kernel_rfl
        exact (show Tryz.prog.wantsStandIn t = false by simpa using List.all_eq_true.1 hall t hin)⟩)
    (by kernel_rfl)
end Go.Proofs.YthppcklegdnjdaaGreatDoor
end
