/- The reference's natural number of a string. -/
import Derived.Test.YtmejbkfamapnkaaGreatDoorZCom9
import Derived.Test.YtmejbkfamapnkaaGreatDoorZParG
import Derived.Test.YtmejbkfamapnkaaGreatDoorZRefC9

/- The reference's natural number of a string. -/
section
namespace Go.Proofs.YtmejbkfamapnkaaGreatDoor
open Go.RowKit Go.Deep

theorem B9_ten (k : Nat) : B9 ^ k = 10 ^ (9 * k) := by rw [Nat.pow_mul]; rfl
theorem dig_ok (l : List UInt8) (hd : ∀ b ∈ l, b.toNat ≤ 57) (m k f : Nat) (hm : m + 9 * k = l.length) (hf : f = m - 9) :
    dig9 (decN l) k = decN ((l.take m).drop f) := by
  have hlen : (l.drop m).length = 9 * k := by rw [List.length_drop]; omega
  have e1 : decN l = decN (l.take m) * B9 ^ k + decN (l.drop m) := by
    rw [B9_ten, ← decN_append _ (9 * k) _ hlen, List.take_append_drop]
  have h1 : decN (l.drop m) < B9 ^ k := by
    rw [B9_ten]
    exact decN_lt _ _ hlen fun x hx => hd x (List.mem_of_mem_drop hx)
  have e2 : decN l / B9 ^ k = decN (l.take m) := by
    rw [e1, Nat.mul_comm, Nat.mul_add_div (B9_pow_pos k), Nat.div_eq_of_lt h1, Nat.add_zero]
  have hlm : (l.take m).length = m := by rw [List.length_take]; omega
  have hdl : ((l.take m).drop f).length = m - f := by rw [List.length_drop, hlm]
  have h2 : decN ((l.take m).drop f) < 10 ^ (m - f) := decN_lt _ _ hdl fun x hx => hd x (List.mem_of_mem_take (List.mem_of_mem_drop hx))
  have e3 : decN (l.take m) = decN ((l.take m).take f) * 10 ^ (m - f) + decN ((l.take m).drop f) := by
    rw [← decN_append _ _ _ hdl, List.take_append_drop]
  unfold dig9
  rw [e2, e3]
  by_cases h9 : 9 ≤ m
  · have e9 : m - f = 9 := by omega
    rw [e9] at h2 ⊢
    rw [show (10 : Nat) ^ 9 = B9 from rfl] at h2 ⊢
    rw [Nat.mul_comm, Nat.mul_add_mod, Nat.mod_eq_of_lt h2]
  · have e0 : f = 0 := by omega
    subst e0
    rw [List.take_zero, show decN ([] : List UInt8) = 0 from rfl, Nat.zero_mul, Nat.zero_add]
    refine Nat.mod_eq_of_lt (Nat.lt_of_lt_of_le h2 ?_)
    show 10 ^ (m - 0) ≤ 10 ^ 9
    exact Nat.pow_le_pow_right (by decide) (by omega)
theorem dig_end (l : List UInt8) (hd : ∀ b ∈ l, b.toNat ≤ 57) (k : Nat) (hk : l.length ≤ 9 * k) : decN l < B9 ^ k := by
  rw [B9_ten]
  exact Nat.lt_of_lt_of_le (decN_lt _ l rfl hd) (Nat.pow_le_pow_right (by decide) hk)
theorem decN_step (l : List UInt8) (f p : Nat) (hf : f ≤ p) (hp : p < l.length) : decN ((l.take (p + 1)).drop f) = 10 * decN ((l.take p).drop f) + (l[p].toNat - 48) := by
  rw [List.take_succ_eq_append_getElem hp, List.drop_append_of_le_length (by rw [List.length_take]; omega), decN_snoc]
theorem ext_take (r : ByteArray) (f : Nat) (h : f ≤ r.size) : (r.extract 0 f).data.toList = r.data.toList.take f ∧ (r.extract 0 f).size = f := by
  constructor
  · rw [ByteArray.data_extract, Array.toList_extract, List.extract_eq_take_drop]
    simp
  · rw [ByteArray.size_extract]; omega
theorem decL_nil : ¬ DecL [] := fun h => h.1 rfl

set_option maxRecDepth 100000 in
set_option maxHeartbeats 8000000 in
theorem r_number (s : ByteArray) (w : World) (hs : s.size ≤ 10000) :
    Calls Tryz.prog 70 #[.string s] w fun e w' => ((DecL s.data.toList ∧ ∃ v, e = .returned (.tuple #[v, .bool true]) ∧ N9At w' v (decN s.data.toList)) ∨ (¬ DecL s.data.toList ∧ e = .returned (.tuple #[.slice none 0 0, .bool false]))) ∧ Below w.heap.size w w' := by
  have hlen : s.data.toList.length = s.size := by simp
  by_cases h0 : s.size = 0
  · have hn : ¬ DecL s.data.toList := by
      rw [List.eq_nil_of_length_eq_zero (hlen.trans h0)]
      exact decL_nil
    have he : (s.toList == []) = true := by
      rw [beq_iff_eq, ByteArray.toList_eq]
      exact List.eq_nil_of_length_eq_zero (hlen.trans h0)
    clear hlen
    go_enter Tryz.func70, Tryz.ntmps70
    go_wp2
    go_ret2
    exact ⟨.inr ⟨hn, rfl⟩, Below.refl _ _⟩
  · have hp : 0 < s.size := by omega
    have he2 : (s.toList == []) = false := by
      rw [beq_eq_false_iff_ne, ByteArray.toList_eq]
      intro h
      rw [h] at hlen
      exact h0 hlen.symm
    by_cases h1 : (s[0].toNat : Int) = 48 ∧ s.toList ≠ [48]
    · have hn : ¬ DecL s.data.toList := fun h => by
        obtain ⟨h2, h3, _⟩ := h
        have h4 : s.data.toList.head? = some 48 := by
          have h5 : s.data.toList.head? = some s[0] := by
            rw [List.head?_eq_getElem?, List.getElem?_eq_getElem (by omega)]
            rfl
          rw [h5]
          congr 1
          apply UInt8.toNat_inj.1
          have : (48 : UInt8).toNat = 48 := rfl
          omega
        have h6 : ¬ 1 < s.data.toList.length := fun h => h3 h h4
        apply h1.2
        rw [ByteArray.toList_eq]
        have h7 : s.data.toList.length = 1 := by omega
        obtain ⟨a, ha⟩ := List.length_eq_one_iff.1 h7
        rw [ha] at h4 ⊢
        simpa using h4
      have a1 : ((s[0].toNat : Int) == 48) = true := by rw [beq_iff_eq]; exact h1.1
      have a2 : (s.toList == [48]) = false := by rw [beq_eq_false_iff_ne]; exact h1.2
      clear hlen h0 h1
      go_enter Tryz.func70, Tryz.ntmps70
      go_wp2
      go_ret2
      exact ⟨.inr ⟨hn, rfl⟩, Below.refl _ _⟩
    · have hD : DecL s.data.toList ↔ ∀ b ∈ s.data.toList, 48 ≤ b.toNat ∧ b.toNat ≤ 57 := by
        constructor
        · exact fun h => h.2.2
        · refine fun h => ⟨fun e => by rw [e] at hlen; exact h0 hlen.symm, fun h2 h3 => ?_, h⟩
          apply h1
          have h5 : s.data.toList.head? = some s[0] := by
            rw [List.head?_eq_getElem?, List.getElem?_eq_getElem (by omega)]
            rfl
          rw [h5] at h3
          injection h3 with h3
          refine ⟨by rw [h3]; rfl, fun h6 => ?_⟩
          rw [ByteArray.toList_eq] at h6
          rw [h6] at h2
          exact absurd h2 (by decide)
      have hc : ((s[0].toNat : Int) == 48) = false ∨ (((s[0].toNat : Int) == 48) = true ∧ (s.toList == [48]) = true) := by
        by_cases ha : (s[0].toNat : Int) = 48
        · by_cases hb : s.toList = [48]
          · exact .inr ⟨by rw [beq_iff_eq]; exact ha, by rw [beq_iff_eq]; exact hb⟩
          · exact absurd ⟨ha, hb⟩ h1
        · exact .inl (by rw [beq_eq_false_iff_ne]; exact ha)
      have HD := Lib.hid hD
      have HL := Lib.hid hlen
      have HS := Lib.hid hs
      have HP := Lib.hid hp
      clear hD hlen h0 h1
      rcases hc with a1 | ⟨a1, a2⟩
      all_goals
        go_enter Tryz.func70, Tryz.ntmps70
        go_wp2
        go_loop [4] (fun i => ∃ k : Nat, k ≤ s.size ∧ i = .int .i64 k ∧ Hid (∀ j (h : j < s.size), j < k → 48 ≤ (s[j].toNat : Int) ∧ (s[j].toNat : Int) ≤ 57)) (fun i => s.size - (intOf i).toNat)
        case atStart => exact ⟨0, Nat.zero_le _, rfl, fun j _ hj => absurd hj (by omega)⟩
        case round =>
          obtain ⟨k, hk, rfl, HJ⟩ := hrel
          by_cases hlt : k < s.size
          · by_cases hb : 48 ≤ (s[k].toNat : Int) ∧ (s[k].toNat : Int) ≤ 57
            · have HN1 : Hid (∀ j (h : j < s.size), j < k + 1 → 48 ≤ (s[j].toNat : Int) ∧ (s[j].toNat : Int) ≤ 57) := fun j h hj => by
                by_cases hjk : j = k
                · subst hjk; exact hb
                · exact HJ.out j h (by omega)
              obtain ⟨g1, g2⟩ := hb
              clear HJ
              go_wp2
              go_round
              case rel => exact ⟨k + 1, by omega, by go_num, HN1⟩
              case measure => simp [intOf]; omega
            · have HF : Hid (¬ DecL s.data.toList) := fun h => hb (by
                have h9 := HD.out.1 h (s[k]) (List.getElem_mem (l := s.data.toList) (by rw [HL.out]; exact hlt))
                omega)
              by_cases g1 : 48 ≤ (s[k].toNat : Int)
              · have g2 : ¬ (s[k].toNat : Int) ≤ 57 := fun g2 => hb ⟨g1, g2⟩
                clear HJ hb
                go_wp2
                go_ret2
                exact ⟨.inr ⟨HF.out, rfl⟩, Below.refl _ _⟩
              · clear HJ hb
                go_wp2
                go_ret2
                exact ⟨.inr ⟨HF.out, rfl⟩, Below.refl _ _⟩
          · have HA : Hid (∀ b ∈ s.data.toList, 48 ≤ b.toNat ∧ b.toNat ≤ 57) := fun b hb => by
              obtain ⟨i, hi, rfl⟩ := List.getElem_of_mem hb
              have h9 := HJ.out i (by rw [← HL.out]; exact hi) (by rw [HL.out] at hi; omega)
              have e : s[i]'(by rw [← HL.out]; exact hi) = s.data.toList[i] := rfl
              rw [e] at h9
              omega
            have HY : Hid (DecL s.data.toList) := HD.out.2 HA.out
            obtain rfl : k = s.size := by omega
            clear HJ a1 he2
            go_wp2
            go_loopg [0, 5] s.size (fun g sv out wr => ∃ (r : ByteArray) (k : Nat), g = r.size ∧ sv = .string r ∧ Hid (r.data.toList = s.data.toList.take r.size) ∧ r.size ≤ 10000 ∧ Hid (r.size ≤ s.size) ∧ Hid (r.size + 9 * k = s.size ∨ (r.size = 0 ∧ s.size ≤ 9 * k)) ∧ k ≤ 1200 ∧ Hid (9 * k ≤ s.size + 8) ∧ Own9 wr w.heap.size out k (dig9 (decN s.data.toList)) ∧ Below w.heap.size w wr)
            case atStart => exact ⟨s, 0, rfl, rfl, by show _ = _; rw [← HL.out, List.take_length], HS.out, Nat.le_refl _, .inl (by omega), by omega, by show _ ≤ _; omega, Own9.nil _ _ _, Below.refl _ _⟩
            case round =>
              obtain ⟨r, k, rfl, rfl, HR, hr, HRs, HK, hk, HK8, hown, hb⟩ := hrel
              have HO := Lib.hid hown
              have HB := Lib.hid hb
              obtain ⟨A, c, rfl, -, -, -⟩ := hown.out
              clear hown hb
              by_cases hlt : 0 < r.size
              · obtain ⟨f, hfd⟩ : ∃ f, f = r.size - 9 := ⟨_, rfl⟩
                have hmx : max 0 ((r.size : Int) - 9) = (f : Int) := by omega
                have hfr : f ≤ r.size := by omega
                have hf9 : r.size ≤ f + 9 := by omega
                have HRl : Hid (r.data.toList.length = r.size) := by show _ = _; simp
                have HDr : Hid (∀ i (h : i < r.size), 48 ≤ r[i].toNat ∧ r[i].toNat ≤ 57) := fun i h => by
                  have hm : r[i] ∈ r.data.toList := List.getElem_mem (l := r.data.toList) (by rw [HRl.out]; exact h)
                  rw [HR.out] at hm
                  exact HA.out _ (List.mem_of_mem_take hm)
                have HKm : Hid (r.size + 9 * k = s.size) := by
                  rcases HK.out with h9 | ⟨h9, _⟩
                  · exact h9
                  · omega
                have HDig : Hid (dig9 (decN s.data.toList) k = decN ((r.data.toList.take r.size).drop f)) := by
                  show _ = _
                  rw [← HRl.out, List.take_length, HR.out]
                  exact dig_ok _ (fun b hb => (HA.out b hb).2) r.size k f (HKm.out.trans HL.out.symm) hfd
                have HFd := Lib.hid hfd
                clear hfd HK
                go_wp2
                clear hmx
                obtain ⟨wo, rfl⟩ : ∃ wo : World, wo = wr := ⟨_, rfl⟩
                go_loopg [7, 8] (r.size - f) (fun g d i wr => ∃ p : Nat, g = r.size - p ∧ f ≤ p ∧ p ≤ r.size ∧ i = .int .i64 p ∧ d = U9 (decN ((r.data.toList.take p).drop f)) ∧ wr = wo)
                case atStart => exact ⟨f, rfl, Nat.le_refl _, hfr, rfl, by rw [List.drop_eq_nil_of_le (by rw [List.length_take]; omega)]; rfl, rfl⟩
                case round =>
                  obtain ⟨p, rfl, hp1, hp2, rfl, rfl, rfl⟩ := hrel
                  by_cases hpl : p < r.size
                  · have HT := Lib.hid (decN_step r.data.toList f p hp1 (by rw [HRl.out]; exact hpl))
                    have hlt8 : decN ((r.data.toList.take p).drop f) < 100000000 := by
                      have h1 := decN_lt (p - f) ((r.data.toList.take p).drop f) (by rw [List.length_drop, List.length_take, HRl.out]; omega) (fun x hx => by
                        have hx' := List.mem_of_mem_take (List.mem_of_mem_drop hx)
                        obtain ⟨i, hi, rfl⟩ := List.getElem_of_mem hx'
                        exact (HDr.out i (by rw [← HRl.out]; exact hi)).2)
                      have h2 : 10 ^ (p - f) ≤ 10 ^ 8 := Nat.pow_le_pow_right (by decide) (by omega)
                      exact Nat.lt_of_lt_of_le h1 h2
                    obtain ⟨c1, c2⟩ := HDr.out p hpl
                    generalize decN ((r.data.toList.take p).drop f) = P at *
                    have HG : Hid ((r.data.toList[p]'(by rw [HRl.out]; exact hpl)) = r[p]) := rfl
                    rw [HG.out] at HT
                    generalize hch : r[p] = ch at *
                    go_wp2
                    go_roundg (r.size - (p + 1))
                    case measure => omega
                    case rel => exact ⟨p + 1, rfl, by omega, by omega, by go_num, congrArg (Value.int .u32) (by rw [HT.out]; omega), rfl⟩
                  · obtain rfl : p = r.size := by omega
                    have hsz := HB.out.size
                    have HDs : Hid (decN ((r.data.toList.take r.size).drop f) < B9) := by
                      show _ < _
                      rw [← HDig.out]
                      exact dig_lt9 _ _
                    generalize decN ((r.data.toList.take r.size).drop f) = D at *
                    generalize decN s.data.toList = X at *
                    go_wp2_with (at_builtin; refine wpList_app9 rfl _ _ rfl wr (U9 D) D rfl rfl w.heap.size (.slice A k c) k (dig9 X) rfl rfl HO.out (by omega) hsz ?_; intro v' w' hown2 hb2; obtain ⟨A2, c2, rfl, -, -, -⟩ := hown2.out)
                    go_roundg ((r.extract 0 f).size)
                    case measure => have h8 := HFd.out; rw [(ext_take r f hfr).2]; omega
                    case rel =>
                      have hxt := ext_take r f hfr
                      refine ⟨r.extract 0 f, k + 1, rfl, rfl, ?_, by rw [hxt.2]; omega, by show _ ≤ _; rw [hxt.2]; have := HRs.out; omega, ?_, ?_, ?_, hown2.congr fun j hj => ?_, HB.out.trans hb2⟩
                      · show _ = _
                        rw [hxt.1, hxt.2, HR.out, List.take_take]
                        congr 1
                        omega
                      · show _ ∨ _
                        rw [hxt.2]
                        have h8 := HFd.out
                        have h7 := HKm.out
                        rcases Nat.lt_or_ge r.size 9 with h9 | h9
                        · exact .inr ⟨by omega, by omega⟩
                        · exact .inl (by omega)
                      · have h7 := HKm.out
                        have h8 := HS.out
                        omega
                      · show _ ≤ _
                        have h7 := HKm.out
                        omega
                      · by_cases e : j = k
                        · subst e; rw [upd_same]; exact HDig.out.symm
                        · rw [upd_ne _ _ _ _ e]
              · have hk2 : s.data.toList.length ≤ 9 * k := by
                  rw [HL.out]
                  rcases HK.out with h9 | ⟨_, h9⟩
                  · omega
                  · exact h9
                have HX := Lib.hid (dig_end s.data.toList (fun b hb => (HA.out b hb).2) k hk2)
                obtain ⟨A', c', e, h1, h2, h3⟩ := HO.out.out
                obtain ⟨rfl, rfl⟩ : A = A' ∧ c = c' := by
                  injection e with e1 _ e3
                  exact ⟨e1, e3⟩
                have HT := Lib.hid (r_trim wr wr.heap.size A k c _ h3 HX.out h1 (by unfold maxLen at h2; omega))
                have H3 := Lib.hid h3
                have H1 := Lib.hid h1
                have H2 := Lib.hid h2
                clear e h1 h2 h3 hk2
                generalize hXX : decN s.data.toList = X at *
                go_wp2_with fail
                refine HT.out.mono ?_
                rintro e w3 ⟨rfl, rfl⟩
                have HN : nw9 X ≤ k := (nw_le9 X k).2 HX.out
                have R : Hid (N9At wr (.slice A (nw9 X) c) X) := ⟨A, c, rfl, Nat.le_trans HN H1.out, by have := H2.out; unfold maxLen at this; omega, H3.out.take HN⟩
                clear HN
                generalize nw9 X = N at *
                go_wp2
                go_ret2
                exact ⟨.inl ⟨HY.out, .slice A N c, rfl, by rw [hXX]; exact R.out⟩, HB.out⟩
end Go.Proofs.YtmejbkfamapnkaaGreatDoor
end

/- The reference's number of a string. -/
section
namespace Go.Proofs.YtmejbkfamapnkaaGreatDoor
open Go.RowKit Go.Deep

theorem nw9_dec (l : List UInt8) (hd : DecL l) (hl : l.length ≤ 10000) : nw9 (decN l) ≤ 1112 := by
  rw [nw_le9]
  exact dig_end l (fun b hb => (hd.2.2 b hb).2) 1112 (by omega)
theorem trim_neg (s : ByteArray) (h : 0 < s.size) (e : (s[0].toNat : Int) = 45) : pBel s.data.toList = true ∧ (s.extract 1 s.size).data.toList = Lib.trimPrefix s.data.toList [45] := by
  obtain ⟨⟨l⟩⟩ := s
  cases l with
  | nil => exact absurd h (by decide)
  | cons a l =>
    have e1 : a = 45 := by
      apply UInt8.toNat_inj.1
      have e2 : ((a.toNat : Nat) : Int) = 45 := e
      have : (45 : UInt8).toNat = 45 := rfl
      omega
    subst e1
    constructor
    · simp [pBel, Lib.hasPrefix, List.isPrefixOf]
    · rw [ByteArray.data_extract, Array.toList_extract, List.extract_eq_take_drop]
      have : (⟨⟨45 :: l⟩⟩ : ByteArray).size = l.length + 1 := rfl
      rw [this]
      simp [Lib.trimPrefix, Lib.hasPrefix, List.isPrefixOf]
theorem trim_pos (s : ByteArray) (h : ¬ 0 < s.size ∨ ∃ h : 0 < s.size, (s[0].toNat : Int) ≠ 45) : pBel s.data.toList = false ∧ s.data.toList = Lib.trimPrefix s.data.toList [45] := by
  obtain ⟨⟨l⟩⟩ := s
  have hp : Lib.hasPrefix l [45] = false := by
    cases l with
    | nil => rfl
    | cons a l =>
      rcases h with h | ⟨_, h⟩
      · exact absurd (Nat.succ_pos _) h
      · have h2 : a ≠ 45 := fun e => h (by rw [show (⟨⟨a :: l⟩⟩ : ByteArray)[0] = a from rfl, e]; rfl)
        simp [Lib.hasPrefix, List.isPrefixOf]
        exact fun e => h2 e.symm
  refine ⟨hp, ?_⟩
  unfold Lib.trimPrefix
  show l = if Lib.hasPrefix l [45] = true then _ else l
  rw [hp]
  rfl
theorem par_no (l : List UInt8) (h : ¬ (DecL (pUp l) ∧ DecL (pLo l) ∧ decN (pLo l) ≠ 0)) : ∀ q, l ≠ txt q := fun q e => h (by
  subst e
  obtain ⟨⟨_, a, b, _, c, _⟩, _⟩ := txt_parts q
  exact ⟨a, b, c⟩)
theorem par_txt (l : List UInt8) (q : Rat) (e : l = txt q) : ratText (sgn (pBel l) (decN (pUp l) / Nat.gcd (decN (pUp l)) (decN (pLo l)))) (decN (pUp l) / Nat.gcd (decN (pUp l)) (decN (pLo l))) (decN (pLo l) / Nat.gcd (decN (pUp l)) (decN (pLo l))) = l := by
  subst e
  obtain ⟨⟨_, _, _, _, _, hg⟩, h1, h2, h3⟩ := txt_parts q
  rw [hg, Nat.div_one, Nat.div_one, h1, h2, h3, sgn_num]
  rfl
theorem par_rat (b : Bool) (N D : Nat) (hD : 0 < D) : ∃ q : Rat, sgn b (N / Nat.gcd N D) = decide (q.num < 0) ∧ N / Nat.gcd N D = q.num.natAbs ∧ D / Nat.gcd N D = q.den := by
  have hg : 0 < Nat.gcd N D := Nat.gcd_pos_of_pos_right _ hD
  exact rat_exists b _ _ (Nat.div_pos (Nat.le_of_dvd hD (Nat.gcd_dvd_right N D)) hg) (by rw [Nat.gcd_div (Nat.gcd_dvd_left N D) (Nat.gcd_dvd_right N D), Nat.div_self hg])
theorem RefV.apartP {w w' : World} {v : Value} {q : Rat} {r : Nat} (h : RefV w v q) (hr : ∀ o y, w.cell? ⟨r, o, none⟩ ≠ some (U9 y)) (hg : w.grownBy w' (some r)) : RefV w' v q := by
  obtain ⟨a, b, e, h1, h2⟩ := h
  exact ⟨a, b, e, h1.apart hr hg, h2.apart hr hg⟩
theorem cut_found (l : List UInt8) (R : ByteArray) (hR : R.data.toList = Lib.trimPrefix l [45]) (k : Nat) (h : k < R.size) (he : ((R[k].toNat : Int) == 47) = true) (hj : ∀ j (h : j < R.size), j < k → ((R[j].toNat : Int) == 47) = false) :
    (R.extract 0 k).data.toList = pUp l ∧ (R.extract (k + 1) R.size).data.toList = pLo l := by
  have hlen : R.data.toList.length = R.size := by simp
  have hk : k < R.data.toList.length := by rw [hlen]; exact h
  have e1 : R.data.toList[k] = 47 := by
    apply UInt8.toNat_inj.1
    have e2 : ((R.data.toList[k].toNat : Nat) : Int) = 47 := by
      have h9 : (R[k].toNat : Int) = 47 := by simpa using he
      exact h9
    have : (47 : UInt8).toNat = 47 := rfl
    omega
  have e3 : R.data.toList = R.data.toList.take k ++ 47 :: R.data.toList.drop (k + 1) := by
    rw [← e1, ← List.drop_eq_getElem_cons hk, List.take_append_drop]
  have hn : (47 : UInt8) ∉ R.data.toList.take k := fun hm => by
    obtain ⟨j, hjl, e4⟩ := List.getElem_of_mem hm
    rw [List.length_take] at hjl
    rw [List.getElem_take] at e4
    have h5 := hj j (by omega) (by omega)
    rw [beq_eq_false_iff_ne] at h5
    apply h5
    have e5 : R[j]'(by omega) = R.data.toList[j]'(by omega) := rfl
    rw [e5, e4]
    rfl
  have hc := cut_at _ (R.data.toList.drop (k + 1)) hn
  rw [← e3] at hc
  have hF : pFr l = true := by unfold pFr; rw [← hR, hc]
  constructor
  · unfold pUp
    rw [← hR, hc, ByteArray.data_extract, Array.toList_extract, List.extract_eq_take_drop]
    simp
  · unfold pLo
    rw [if_pos hF, ← hR, hc, ByteArray.data_extract, Array.toList_extract, List.extract_eq_take_drop]
    show List.take (R.size - (k + 1)) _ = _
    rw [List.take_of_length_le]
    rw [List.length_drop]; omega
theorem cut_none (l : List UInt8) (R : ByteArray) (hR : R.data.toList = Lib.trimPrefix l [45]) (hj : ∀ j (h : j < R.size), ((R[j].toNat : Int) == 47) = false) :
    R.data.toList = pUp l ∧ (⟨#[49]⟩ : ByteArray).data.toList = pLo l := by
  have hlen : R.data.toList.length = R.size := by simp
  have hn : (47 : UInt8) ∉ R.data.toList := fun hm => by
    obtain ⟨j, hjl, e4⟩ := List.getElem_of_mem hm
    have h5 := hj j (by omega)
    rw [beq_eq_false_iff_ne] at h5
    apply h5
    have e5 : R[j]'(by omega) = R.data.toList[j]'(by omega) := rfl
    rw [e5, e4]
    rfl
  have hc := cut_not _ hn
  have hF : pFr l = false := by unfold pFr; rw [← hR, hc]
  constructor
  · unfold pUp; rw [← hR, hc]
  · unfold pLo; rw [if_neg (by rw [hF]; decide)]
theorem r_number2 (s : ByteArray) (l : List UInt8) (hl : s.data.toList = l) (w : World) (hs : l.length ≤ 10000) :
    Calls Tryz.prog 70 #[.string s] w fun e w' => ∃ A n c b, e = .returned (.tuple #[.slice A n c, .bool b]) ∧ (b = true ↔ DecL l) ∧ (b = true → N9At w' (.slice A n c) (decN l) ∧ n = nw9 (decN l)) ∧ Below w.heap.size w w' := by
  subst hl
  refine (r_number s w (by simpa using hs)).mono ?_
  rintro e w' ⟨⟨h1, v, rfl, hv⟩ | ⟨h1, rfl⟩, hb⟩
  · obtain ⟨A, c, rfl⟩ := hv.sl
    exact ⟨A, _, c, true, rfl, ⟨fun _ => h1, fun _ => rfl⟩, fun _ => ⟨hv, rfl⟩, hb⟩
  · exact ⟨none, 0, 0, false, rfl, ⟨(fun h => by cases h), fun h => absurd h h1⟩, (fun h => by cases h), hb⟩

set_option maxRecDepth 100000 in
set_option maxHeartbeats 16000000 in
theorem r_Parse (s : ByteArray) (w : World) (hs : s.size ≤ 10000) :
    Calls Tryz.prog 73 #[.string s] w fun e w' => ((∃ r q, e = .returned (.tuple #[r, .int .i64 0]) ∧ s.data.toList = txt q ∧ RefV w' r q) ∨ ((∀ q, s.data.toList ≠ txt q) ∧ e = .returned (.tuple #[.agg #[.bool false, .slice none 0 0, .slice none 0 0], .int .i64 7]))) ∧ Below w.heap.size w w' := by
  have hlen : s.data.toList.length = s.size := by simp
  obtain ⟨hl1, hl2⟩ := parts_len s.data.toList 10000 (by omega) (by omega)
  obtain ⟨W0, hW0, hB0, hz0, KR⟩ := zero_box w
  have HB0 := Lib.hid hB0
  have HL1 := Lib.hid hl1
  have HL2 := Lib.hid hl2
  clear hB0 hl1 hl2
  have i1 : ((10000 : Int) < (s.size : Int)) = False := by simp; omega
  by_cases hz : 0 < s.size
  · by_cases h45 : ((s[0].toNat : Int) == 45) = true
    · obtain ⟨hB, hR⟩ := trim_neg s hz (by simpa using h45)
      have HB := Lib.hid hB
      have hRz : (s.extract 1 s.size).size ≤ 10000 := by rw [ByteArray.size_extract]; omega
      clear hB hs hlen
      go_enter Tryz.func73, Tryz.ntmps73
      go_wp2
      generalize hRR : s.extract 1 s.size = R at *
      have HR := Lib.hid hR
      clear hR hRR
      go_loop [6, 7, 8] (fun nu de i => ∃ k : Nat, k ≤ R.size ∧ i = .int .i64 k ∧ nu = .string R ∧ de = .string ⟨#[49]⟩ ∧ Hid (∀ j (h : j < R.size), j < k → ((R[j].toNat : Int) == 47) = false)) (fun _ _ i => R.size - (intOf i).toNat)
      case atStart => exact ⟨0, Nat.zero_le _, rfl, rfl, rfl, fun j _ hj => absurd hj (by omega)⟩
      case round =>
        obtain ⟨k, hk, rfl, rfl, rfl, HJ⟩ := hrel
        by_cases hlt : k < R.size
        · by_cases he : ((R[k].toNat : Int) == 47) = true
          · obtain ⟨hUl, hVl⟩ := cut_found s.data.toList R HR.out k hlt he HJ.out
            have HUl := Lib.hid hUl
            have HVl := Lib.hid hVl
            clear hUl hVl HJ
            have hw : IntKind.i64.wrap ((k : Int) + 1) = (k : Int) + 1 := by
              rw [IntKind.wrap_i64]; omega
            have hk1 : (k : Int) + 1 ≤ (R.size : Int) := by omega
            have hk0 : (0 : Int) ≤ (k : Int) + 1 := by omega
            go_wp2_with fail
            go_still (by kernel_rfl)
            rw [show ({ W0 with drawn := W0.drawn + 1 } : World) = W0.drew from rfl]
            have hbt : Below W0.heap.size W0 W0.drew := Below.drew (Below.refl _ _)
            generalize W0.drew = Wt at hbt ⊢
            have BT := Lib.hid hbt
            clear hbt
            go_wp2_with fail
            refine (r_number2 (R.extract 0 k) _ HUl.out Wt HL1.out).mono ?_
            rintro e w1 ⟨A1, n1, c1, b1, rfl, hi1, hn1, hb1⟩
            have B1 := Lib.hid (btr BT.out hb1)
            have I1 := Lib.hid hi1
            have N1 := Lib.hid hn1
            clear hb1 hi1 hn1
            go_wp2_with fail
            refine (r_number2 (R.extract (k + 1) R.size) _ HVl.out w1 HL2.out).mono ?_
            rintro e w2 ⟨A2, n2, c2, b2, rfl, hi2, hn2, hb2⟩
            have B2 := Lib.hid (btr B1.out hb2)
            have B12 := Lib.hid hb2
            have I2 := Lib.hid hi2
            have N2 := Lib.hid hn2
            clear hb2 hi2 hn2
            cases b1
            · have HNo : Hid (∀ q, s.data.toList ≠ txt q) := par_no _ (fun h => by have := I1.out.2 h.1; cases this)
              clear I1 N1 I2 N2
              have hcell := KR.out w2 B2.out
              have hBf := btr HB0.out B2.out
              go_wp2_with (refine wpList_store_row 65 _ _ rfl rfl rfl w.heap.size 65 rfl [.bool false, .slice none 0 0, .slice none 0 0] rfl _ hcell rfl info_ref (ref_one _ _ _ _ _ _ _) ?_; intro wz hhz hgz hzz; have HGz := Lib.hid hgz; have HZz := Lib.hid hzz; clear hzz hgz hcell)
              exact bodyPost_ret (v := .tuple #[.agg #[.bool false, .slice none 0 0, .slice none 0 0], .int .i64 7]) (results_cell_tmp Tryz.results73 _ _ w.heap.size 65 _ (0, 0) _ rfl hhz Tryz.underlying65 rfl (by rw [info_ref]; rfl)) rfl
                ⟨.inr ⟨HNo.out, rfl⟩, hBf.grown HGz.out hBf.size (fun j hj => by injection hj with hj; omega)⟩
            · cases b2
              · have HNo : Hid (∀ q, s.data.toList ≠ txt q) := par_no _ (fun h => by have := I2.out.2 h.2.1; cases this)
                clear I1 N1 I2 N2
                have hcell := KR.out w2 B2.out
                have hBf := btr HB0.out B2.out
                go_wp2_with (refine wpList_store_row 65 _ _ rfl rfl rfl w.heap.size 65 rfl [.bool false, .slice none 0 0, .slice none 0 0] rfl _ hcell rfl info_ref (ref_one _ _ _ _ _ _ _) ?_; intro wz hhz hgz hzz; have HGz := Lib.hid hgz; have HZz := Lib.hid hzz; clear hzz hgz hcell)
                exact bodyPost_ret (v := .tuple #[.agg #[.bool false, .slice none 0 0, .slice none 0 0], .int .i64 7]) (results_cell_tmp Tryz.results73 _ _ w.heap.size 65 _ (0, 0) _ rfl hhz Tryz.underlying65 rfl (by rw [info_ref]; rfl)) rfl
                  ⟨.inr ⟨HNo.out, rfl⟩, hBf.grown HGz.out hBf.size (fun j hj => by injection hj with hj; omega)⟩
              · obtain ⟨hN1, hn1⟩ := N1.out rfl
                obtain ⟨hN2, hn2⟩ := N2.out rfl
                have hw1 := nw9_dec _ (I1.out.1 rfl) HL1.out
                have hw2 := nw9_dec _ (I2.out.1 rfl) HL2.out
                clear N1 N2 I1 I2
                by_cases hD : decN (pLo s.data.toList) = 0
                · have HNo : Hid (∀ q, s.data.toList ≠ txt q) := par_no _ (fun h => h.2.2 hD)
                  have hz9 : ((n2 : Int) == 0) = true := by rw [hn2, hD, nw_zero9]; rfl
                  clear hn1 hn2 hN1 hN2 hw1 hw2
                  have hcell := KR.out w2 B2.out
                  have hBf := btr HB0.out B2.out
                  go_wp2_with (refine wpList_store_row 65 _ _ rfl rfl rfl w.heap.size 65 rfl [.bool false, .slice none 0 0, .slice none 0 0] rfl _ hcell rfl info_ref (ref_one _ _ _ _ _ _ _) ?_; intro wz hhz hgz hzz; have HGz := Lib.hid hgz; have HZz := Lib.hid hzz; clear hzz hgz hcell)
                  exact bodyPost_ret (v := .tuple #[.agg #[.bool false, .slice none 0 0, .slice none 0 0], .int .i64 7]) (results_cell_tmp Tryz.results73 _ _ w.heap.size 65 _ (0, 0) _ rfl hhz Tryz.underlying65 rfl (by rw [info_ref]; rfl)) rfl
                    ⟨.inr ⟨HNo.out, rfl⟩, hBf.grown HGz.out hBf.size (fun j hj => by injection hj with hj; omega)⟩
                · obtain ⟨q, hq1, hq2, hq3⟩ := par_rat (pBel s.data.toList) (decN (pUp s.data.toList)) (decN (pLo s.data.toList)) (by omega)
                  have HTq : Hid (∀ q', s.data.toList = txt q' → txt q = s.data.toList) := fun q' e => by
                    have h9 := par_txt s.data.toList q' e
                    rw [hq1, hq2, hq3] at h9
                    exact h9
                  have hk1 : nw9 q.num.natAbs ≤ 1112 := by rw [← hq2]; exact Nat.le_trans (nw_mono9 (Nat.div_le_self _ _)) hw1
                  have hk2 : nw9 q.den ≤ 1112 := by rw [← hq3]; exact Nat.le_trans (nw_mono9 (Nat.div_le_self _ _)) hw2
                  have HRd : Hid (Calls Tryz.prog 126 #[.bool (pBel s.data.toList), .slice A1 n1 c1, .slice A2 n2 c2] w2 fun e w' => ∃ r, e = .returned r ∧ RefV w' r q ∧ Below w2.heap.size w2 w') := by
                    refine (r_reduced w2 (pBel s.data.toList) _ _ _ _ (hN1.below B12.out) hN2 (by omega) (by omega) (by omega)).mono ?_
                    rintro e w' ⟨r, rfl, hr, hb⟩
                    rw [hq1, hq2, hq3] at hr
                    exact ⟨r, rfl, hr, hb⟩
                  have HKq : Hid (nw9 q.num.natAbs ≤ 1112 ∧ nw9 q.den ≤ 1112) := ⟨hk1, hk2⟩
                  have hz9 : ((n2 : Int) == 0) = false := by
                    rw [beq_eq_false_iff_ne]
                    have := (nw_pos9 (decN (pLo s.data.toList))).2 (by omega)
                    omega
                  rw [HB.out] at HRd
                  clear hn1 hn2 hN1 hN2 hw1 hw2 hq1 hq2 hq3 hk1 hk2 hD
                  go_wp2_with fail
                  refine HRd.out.mono ?_
                  rintro e w3 ⟨r, rfl, hr, hb3⟩
                  have HR3 := Lib.hid hr
                  have B3 := Lib.hid (btr B2.out hb3)
                  obtain ⟨u, v, rfl, hu, hv⟩ := hr
                  obtain ⟨A3, c3, rfl⟩ := hu.sl
                  obtain ⟨A4, c4, rfl⟩ := hv.sl
                  clear hu hv hb3 HRd
                  generalize decide (q.num < 0) = sb at *
                  have HKq2 : Hid (nw9 q.num.natAbs ≤ 100000 ∧ nw9 q.den ≤ 100000) := ⟨Nat.le_trans HKq.out.1 (by decide), Nat.le_trans HKq.out.2 (by decide)⟩
                  have HTT : Hid (∀ W r, RefV W r q → Calls Tryz.prog 76 #[r] W fun e w' => e = .returned (.string ⟨(txt q).toArray⟩) ∧ Below W.heap.size W w') := fun W r h => r_Text W r _ _ _ h HKq2.out.1 HKq2.out.2
                  clear HKq HKq2
                  generalize nw9 q.num.natAbs = m3 at *
                  generalize nw9 q.den = m4 at *
                  obtain ⟨w4, hw4, hb4, hz4, K4⟩ := ref_box w3 sb (.slice A3 m3 c3) (.slice A4 m4 c4)
                  have B4 := Lib.hid (btr B3.out hb4)
                  have HR4 := Lib.hid (HR3.out.below hb4)
                  have HT4 : Hid (Calls Tryz.prog 76 #[.agg #[.bool sb, .slice A3 m3 c3, .slice A4 m4 c4]] w4 fun e w' => e = .returned (.string ⟨(txt q).toArray⟩) ∧ Below w4.heap.size w4 w') := HTT.out w4 _ HR4.out
                  obtain ⟨x0, x1, x2⟩ := K4.out w4 (Below.refl _ _)
                  obtain ⟨Tb, hTb⟩ : ∃ Tb : ByteArray, Tb = ⟨(txt q).toArray⟩ := ⟨_, rfl⟩
                  rw [← hTb] at HT4
                  have HTb := Lib.hid hTb
                  clear hb4 hTb
                  go_wp2_with fail
                  refine HT4.out.mono ?_
                  rintro e w5 ⟨rfl, hb5⟩
                  have B5 := Lib.hid (btr B4.out hb5)
                  have HR5 := Lib.hid (HR4.out.below hb5)
                  clear x0 x1 x2
                  obtain ⟨x0, x1, x2⟩ := K4.out w5 hb5
                  clear hb5 HT4
                  by_cases hT : txt q = s.data.toList
                  · have e1 : Tb = s := by
                      rw [HTb.out, hT]
                    have HEq := Lib.hid hT
                    clear hT HTb
                    subst e1
                    have hcell := KR.out w5 B5.out
                    have HCell := Lib.hid hcell
                    have hBf := btr HB0.out B5.out
                    go_wp2_with (refine wpList_store_row 65 _ _ rfl rfl rfl w.heap.size 65 rfl [.bool sb, .slice A3 m3 c3, .slice A4 m4 c4] rfl _ hcell rfl info_ref (ref_one _ _ _ _ _ _ _) ?_; intro wz hhz hgz hzz; have HGz := Lib.hid hgz; have HZz := Lib.hid hzz; clear hzz hgz hcell)
                    have hno := ref_noint HCell.out
                    exact bodyPost_ret (v := .tuple #[.agg #[.bool sb, .slice A3 m3 c3, .slice A4 m4 c4], .int .i64 0]) (results_cell_tmp Tryz.results73 _ _ w.heap.size 65 _ (0, 0) _ rfl hhz Tryz.underlying65 rfl (by rw [info_ref]; rfl)) rfl
                      ⟨.inl ⟨_, q, rfl, HEq.out.symm, RefV.apartP HR5.out hno HGz.out⟩, hBf.grown HGz.out hBf.size (fun j hj => by injection hj with hj; omega)⟩
                  · have HNo : Hid (∀ q, s.data.toList ≠ txt q) := fun q' e => hT (HTq.out q' e)
                    have e1 : (Tb.toList == s.toList) = false := by
                      rw [beq_eq_false_iff_ne, ByteArray.toList_eq, ByteArray.toList_eq, HTb.out]
                      exact hT
                    clear hT HTb
                    have hcell := KR.out w5 B5.out
                    have hBf := btr HB0.out B5.out
                    go_wp2_with (refine wpList_store_row 65 _ _ rfl rfl rfl w.heap.size 65 rfl [.bool false, .slice none 0 0, .slice none 0 0] rfl _ hcell rfl info_ref (ref_one _ _ _ _ _ _ _) ?_; intro wz hhz hgz hzz; have HGz := Lib.hid hgz; have HZz := Lib.hid hzz; clear hzz hgz hcell)
                    exact bodyPost_ret (v := .tuple #[.agg #[.bool false, .slice none 0 0, .slice none 0 0], .int .i64 7]) (results_cell_tmp Tryz.results73 _ _ w.heap.size 65 _ (0, 0) _ rfl hhz Tryz.underlying65 rfl (by rw [info_ref]; rfl)) rfl
                      ⟨.inr ⟨HNo.out, rfl⟩, hBf.grown HGz.out hBf.size (fun j hj => by injection hj with hj; omega)⟩
          · have he2 : ((R[k].toNat : Int) == 47) = false := by simpa using he
            have HN1 : Hid (∀ j (h : j < R.size), j < k + 1 → ((R[j].toNat : Int) == 47) = false) := fun j h hj => by
              by_cases hjk : j = k
              · subst hjk; exact he2
              · exact HJ.out j h (by omega)
            clear HJ he
            go_wp2
            go_round
            case rel => exact ⟨k + 1, by omega, by go_num, rfl, rfl, HN1⟩
            case measure => simp [intOf]; omega
        · obtain ⟨hUl, hVl⟩ := cut_none s.data.toList R HR.out (fun j h => HJ.out j h (by omega))
          have HUl := Lib.hid hUl
          have HVl := Lib.hid hVl
          have BT : Hid (Below W0.heap.size W0 W0) := Below.refl _ _
          clear hUl hVl HJ
          go_wp2_with fail
          refine (r_number2 R _ HUl.out W0 HL1.out).mono ?_
          rintro e w1 ⟨A1, n1, c1, b1, rfl, hi1, hn1, hb1⟩
          have B1 := Lib.hid (btr BT.out hb1)
          have I1 := Lib.hid hi1
          have N1 := Lib.hid hn1
          clear hb1 hi1 hn1
          go_wp2_with fail
          refine (r_number2 ⟨#[49]⟩ _ HVl.out w1 HL2.out).mono ?_
          rintro e w2 ⟨A2, n2, c2, b2, rfl, hi2, hn2, hb2⟩
          have B2 := Lib.hid (btr B1.out hb2)
          have B12 := Lib.hid hb2
          have I2 := Lib.hid hi2
          have N2 := Lib.hid hn2
          clear hb2 hi2 hn2
          cases b1
          · have HNo : Hid (∀ q, s.data.toList ≠ txt q) := par_no _ (fun h => by have := I1.out.2 h.1; cases this)
            clear I1 N1 I2 N2
            have hcell := KR.out w2 B2.out
            have hBf := btr HB0.out B2.out
            go_wp2_with (refine wpList_store_row 65 _ _ rfl rfl rfl w.heap.size 65 rfl [.bool false, .slice none 0 0, .slice none 0 0] rfl _ hcell rfl info_ref (ref_one _ _ _ _ _ _ _) ?_; intro wz hhz hgz hzz; have HGz := Lib.hid hgz; have HZz := Lib.hid hzz; clear hzz hgz hcell)
            exact bodyPost_ret (v := .tuple #[.agg #[.bool false, .slice none 0 0, .slice none 0 0], .int .i64 7]) (results_cell_tmp Tryz.results73 _ _ w.heap.size 65 _ (0, 0) _ rfl hhz Tryz.underlying65 rfl (by rw [info_ref]; rfl)) rfl
              ⟨.inr ⟨HNo.out, rfl⟩, hBf.grown HGz.out hBf.size (fun j hj => by injection hj with hj; omega)⟩
          · cases b2
            · have HNo : Hid (∀ q, s.data.toList ≠ txt q) := par_no _ (fun h => by have := I2.out.2 h.2.1; cases this)
              clear I1 N1 I2 N2
              have hcell := KR.out w2 B2.out
              have hBf := btr HB0.out B2.out
              go_wp2_with (refine wpList_store_row 65 _ _ rfl rfl rfl w.heap.size 65 rfl [.bool false, .slice none 0 0, .slice none 0 0] rfl _ hcell rfl info_ref (ref_one _ _ _ _ _ _ _) ?_; intro wz hhz hgz hzz; have HGz := Lib.hid hgz; have HZz := Lib.hid hzz; clear hzz hgz hcell)
              exact bodyPost_ret (v := .tuple #[.agg #[.bool false, .slice none 0 0, .slice none 0 0], .int .i64 7]) (results_cell_tmp Tryz.results73 _ _ w.heap.size 65 _ (0, 0) _ rfl hhz Tryz.underlying65 rfl (by rw [info_ref]; rfl)) rfl
                ⟨.inr ⟨HNo.out, rfl⟩, hBf.grown HGz.out hBf.size (fun j hj => by injection hj with hj; omega)⟩
            · obtain ⟨hN1, hn1⟩ := N1.out rfl
              obtain ⟨hN2, hn2⟩ := N2.out rfl
              have hw1 := nw9_dec _ (I1.out.1 rfl) HL1.out
              have hw2 := nw9_dec _ (I2.out.1 rfl) HL2.out
              clear N1 N2 I1 I2
              by_cases hD : decN (pLo s.data.toList) = 0
              · have HNo : Hid (∀ q, s.data.toList ≠ txt q) := par_no _ (fun h => h.2.2 hD)
                have hz9 : ((n2 : Int) == 0) = true := by rw [hn2, hD, nw_zero9]; rfl
                clear hn1 hn2 hN1 hN2 hw1 hw2
                have hcell := KR.out w2 B2.out
                have hBf := btr HB0.out B2.out
                go_wp2_with (refine wpList_store_row 65 _ _ rfl rfl rfl w.heap.size 65 rfl [.bool false, .slice none 0 0, .slice none 0 0] rfl _ hcell rfl info_ref (ref_one _ _ _ _ _ _ _) ?_; intro wz hhz hgz hzz; have HGz := Lib.hid hgz; have HZz := Lib.hid hzz; clear hzz hgz hcell)
                exact bodyPost_ret (v := .tuple #[.agg #[.bool false, .slice none 0 0, .slice none 0 0], .int .i64 7]) (results_cell_tmp Tryz.results73 _ _ w.heap.size 65 _ (0, 0) _ rfl hhz Tryz.underlying65 rfl (by rw [info_ref]; rfl)) rfl
                  ⟨.inr ⟨HNo.out, rfl⟩, hBf.grown HGz.out hBf.size (fun j hj => by injection hj with hj; omega)⟩
              · obtain ⟨q, hq1, hq2, hq3⟩ := par_rat (pBel s.data.toList) (decN (pUp s.data.toList)) (decN (pLo s.data.toList)) (by omega)
                have HTq : Hid (∀ q', s.data.toList = txt q' → txt q = s.data.toList) := fun q' e => by
                  have h9 := par_txt s.data.toList q' e
                  rw [hq1, hq2, hq3] at h9
                  exact h9
                have hk1 : nw9 q.num.natAbs ≤ 1112 := by rw [← hq2]; exact Nat.le_trans (nw_mono9 (Nat.div_le_self _ _)) hw1
                have hk2 : nw9 q.den ≤ 1112 := by rw [← hq3]; exact Nat.le_trans (nw_mono9 (Nat.div_le_self _ _)) hw2
                have HRd : Hid (Calls Tryz.prog 126 #[.bool (pBel s.data.toList), .slice A1 n1 c1, .slice A2 n2 c2] w2 fun e w' => ∃ r, e = .returned r ∧ RefV w' r q ∧ Below w2.heap.size w2 w') := by
                  refine (r_reduced w2 (pBel s.data.toList) _ _ _ _ (hN1.below B12.out) hN2 (by omega) (by omega) (by omega)).mono ?_
                  rintro e w' ⟨r, rfl, hr, hb⟩
                  rw [hq1, hq2, hq3] at hr
                  exact ⟨r, rfl, hr, hb⟩
                have HKq : Hid (nw9 q.num.natAbs ≤ 1112 ∧ nw9 q.den ≤ 1112) := ⟨hk1, hk2⟩
                have hz9 : ((n2 : Int) == 0) = false := by
                  rw [beq_eq_false_iff_ne]
                  have := (nw_pos9 (decN (pLo s.data.toList))).2 (by omega)
                  omega
                rw [HB.out] at HRd
                clear hn1 hn2 hN1 hN2 hw1 hw2 hq1 hq2 hq3 hk1 hk2 hD
                go_wp2_with fail
                refine HRd.out.mono ?_
                rintro e w3 ⟨r, rfl, hr, hb3⟩
                have HR3 := Lib.hid hr
                have B3 := Lib.hid (btr B2.out hb3)
                obtain ⟨u, v, rfl, hu, hv⟩ := hr
                obtain ⟨A3, c3, rfl⟩ := hu.sl
                obtain ⟨A4, c4, rfl⟩ := hv.sl
                clear hu hv hb3 HRd
                generalize decide (q.num < 0) = sb at *
                have HKq2 : Hid (nw9 q.num.natAbs ≤ 100000 ∧ nw9 q.den ≤ 100000) := ⟨Nat.le_trans HKq.out.1 (by decide), Nat.le_trans HKq.out.2 (by decide)⟩
                have HTT : Hid (∀ W r, RefV W r q → Calls Tryz.prog 76 #[r] W fun e w' => e = .returned (.string ⟨(txt q).toArray⟩) ∧ Below W.heap.size W w') := fun W r h => r_Text W r _ _ _ h HKq2.out.1 HKq2.out.2
                clear HKq HKq2
                generalize nw9 q.num.natAbs = m3 at *
                generalize nw9 q.den = m4 at *
                obtain ⟨w4, hw4, hb4, hz4, K4⟩ := ref_box w3 sb (.slice A3 m3 c3) (.slice A4 m4 c4)
                have B4 := Lib.hid (btr B3.out hb4)
                have HR4 := Lib.hid (HR3.out.below hb4)
                have HT4 : Hid (Calls Tryz.prog 76 #[.agg #[.bool sb, .slice A3 m3 c3, .slice A4 m4 c4]] w4 fun e w' => e = .returned (.string ⟨(txt q).toArray⟩) ∧ Below w4.heap.size w4 w') := HTT.out w4 _ HR4.out
                obtain ⟨x0, x1, x2⟩ := K4.out w4 (Below.refl _ _)
                obtain ⟨Tb, hTb⟩ : ∃ Tb : ByteArray, Tb = ⟨(txt q).toArray⟩ := ⟨_, rfl⟩
                rw [← hTb] at HT4
                have HTb := Lib.hid hTb
                clear hb4 hTb
                go_wp2_with fail
                refine HT4.out.mono ?_
                rintro e w5 ⟨rfl, hb5⟩
                have B5 := Lib.hid (btr B4.out hb5)
                have HR5 := Lib.hid (HR4.out.below hb5)
                clear x0 x1 x2
                obtain ⟨x0, x1, x2⟩ := K4.out w5 hb5
                clear hb5 HT4
                by_cases hT : txt q = s.data.toList
                · have e1 : Tb = s := by
                    rw [HTb.out, hT]
                  have HEq := Lib.hid hT
                  clear hT HTb
                  subst e1
                  have hcell := KR.out w5 B5.out
                  have HCell := Lib.hid hcell
                  have hBf := btr HB0.out B5.out
                  go_wp2_with (refine wpList_store_row 65 _ _ rfl rfl rfl w.heap.size 65 rfl [.bool sb, .slice A3 m3 c3, .slice A4 m4 c4] rfl _ hcell rfl info_ref (ref_one _ _ _ _ _ _ _) ?_; intro wz hhz hgz hzz; have HGz := Lib.hid hgz; have HZz := Lib.hid hzz; clear hzz hgz hcell)
                  have hno := ref_noint HCell.out
                  exact bodyPost_ret (v := .tuple #[.agg #[.bool sb, .slice A3 m3 c3, .slice A4 m4 c4], .int .i64 0]) (results_cell_tmp Tryz.results73 _ _ w.heap.size 65 _ (0, 0) _ rfl hhz Tryz.underlying65 rfl (by rw [info_ref]; rfl)) rfl
                    ⟨.inl ⟨_, q, rfl, HEq.out.symm, RefV.apartP HR5.out hno HGz.out⟩, hBf.grown HGz.out hBf.size (fun j hj => by injection hj with hj; omega)⟩
                · have HNo : Hid (∀ q, s.data.toList ≠ txt q) := fun q' e => hT (HTq.out q' e)
                  have e1 : (Tb.toList == s.toList) = false := by
                    rw [beq_eq_false_iff_ne, ByteArray.toList_eq, ByteArray.toList_eq, HTb.out]
                    exact hT
                  clear hT HTb
                  have hcell := KR.out w5 B5.out
                  have hBf := btr HB0.out B5.out
                  go_wp2_with (refine wpList_store_row 65 _ _ rfl rfl rfl w.heap.size 65 rfl [.bool false, .slice none 0 0, .slice none 0 0] rfl _ hcell rfl info_ref (ref_one _ _ _ _ _ _ _) ?_; intro wz hhz hgz hzz; have HGz := Lib.hid hgz; have HZz := Lib.hid hzz; clear hzz hgz hcell)
                  exact bodyPost_ret (v := .tuple #[.agg #[.bool false, .slice none 0 0, .slice none 0 0], .int .i64 7]) (results_cell_tmp Tryz.results73 _ _ w.heap.size 65 _ (0, 0) _ rfl hhz Tryz.underlying65 rfl (by rw [info_ref]; rfl)) rfl
                    ⟨.inr ⟨HNo.out, rfl⟩, hBf.grown HGz.out hBf.size (fun j hj => by injection hj with hj; omega)⟩
    · have h46 : ((s[0].toNat : Int) == 45) = false := by simpa using h45
      obtain ⟨hB, hR⟩ := trim_pos s (.inr ⟨hz, by simpa using h45⟩)
      have HB := Lib.hid hB
      clear hB hlen h45
      go_enter Tryz.func73, Tryz.ntmps73
      go_wp2
      have HR := Lib.hid hR
      clear hR
      go_loop [6, 7, 8] (fun nu de i => ∃ k : Nat, k ≤ s.size ∧ i = .int .i64 k ∧ nu = .string s ∧ de = .string ⟨#[49]⟩ ∧ Hid (∀ j (h : j < s.size), j < k → ((s[j].toNat : Int) == 47) = false)) (fun _ _ i => s.size - (intOf i).toNat)
      case atStart => exact ⟨0, Nat.zero_le _, rfl, rfl, rfl, fun j _ hj => absurd hj (by omega)⟩
      case round =>
        obtain ⟨k, hk, rfl, rfl, rfl, HJ⟩ := hrel
        by_cases hlt : k < s.size
        · by_cases he : ((s[k].toNat : Int) == 47) = true
          · obtain ⟨hUl, hVl⟩ := cut_found s.data.toList s HR.out k hlt he HJ.out
            have HUl := Lib.hid hUl
            have HVl := Lib.hid hVl
            clear hUl hVl HJ
            have hw : IntKind.i64.wrap ((k : Int) + 1) = (k : Int) + 1 := by
              rw [IntKind.wrap_i64]; omega
            have hk1 : (k : Int) + 1 ≤ (s.size : Int) := by omega
            have hk0 : (0 : Int) ≤ (k : Int) + 1 := by omega
            go_wp2_with fail
            go_still (by kernel_rfl)
            rw [show ({ W0 with drawn := W0.drawn + 1 } : World) = W0.drew from rfl]
            have hbt : Below W0.heap.size W0 W0.drew := Below.drew (Below.refl _ _)
            generalize W0.drew = Wt at hbt ⊢
            have BT := Lib.hid hbt
            clear hbt
            go_wp2_with fail
            refine (r_number2 (s.extract 0 k) _ HUl.out Wt HL1.out).mono ?_
            rintro e w1 ⟨A1, n1, c1, b1, rfl, hi1, hn1, hb1⟩
            have B1 := Lib.hid (btr BT.out hb1)
            have I1 := Lib.hid hi1
            have N1 := Lib.hid hn1
            clear hb1 hi1 hn1
            go_wp2_with fail
            refine (r_number2 (s.extract (k + 1) s.size) _ HVl.out w1 HL2.out).mono ?_
            rintro e w2 ⟨A2, n2, c2, b2, rfl, hi2, hn2, hb2⟩
            have B2 := Lib.hid (btr B1.out hb2)
            have B12 := Lib.hid hb2
            have I2 := Lib.hid hi2
            have N2 := Lib.hid hn2
            clear hb2 hi2 hn2
            cases b1
            · have HNo : Hid (∀ q, s.data.toList ≠ txt q) := par_no _ (fun h => by have := I1.out.2 h.1; cases this)
              clear I1 N1 I2 N2
              have hcell := KR.out w2 B2.out
              have hBf := btr HB0.out B2.out
              go_wp2_with (refine wpList_store_row 65 _ _ rfl rfl rfl w.heap.size 65 rfl [.bool false, .slice none 0 0, .slice none 0 0] rfl _ hcell rfl info_ref (ref_one _ _ _ _ _ _ _) ?_; intro wz hhz hgz hzz; have HGz := Lib.hid hgz; have HZz := Lib.hid hzz; clear hzz hgz hcell)
              exact bodyPost_ret (v := .tuple #[.agg #[.bool false, .slice none 0 0, .slice none 0 0], .int .i64 7]) (results_cell_tmp Tryz.results73 _ _ w.heap.size 65 _ (0, 0) _ rfl hhz Tryz.underlying65 rfl (by rw [info_ref]; rfl)) rfl
                ⟨.inr ⟨HNo.out, rfl⟩, hBf.grown HGz.out hBf.size (fun j hj => by injection hj with hj; omega)⟩
            · cases b2
              · have HNo : Hid (∀ q, s.data.toList ≠ txt q) := par_no _ (fun h => by have := I2.out.2 h.2.1; cases this)
                clear I1 N1 I2 N2
                have hcell := KR.out w2 B2.out
                have hBf := btr HB0.out B2.out
                go_wp2_with (refine wpList_store_row 65 _ _ rfl rfl rfl w.heap.size 65 rfl [.bool false, .slice none 0 0, .slice none 0 0] rfl _ hcell rfl info_ref (ref_one _ _ _ _ _ _ _) ?_; intro wz hhz hgz hzz; have HGz := Lib.hid hgz; have HZz := Lib.hid hzz; clear hzz hgz hcell)
                exact bodyPost_ret (v := .tuple #[.agg #[.bool false, .slice none 0 0, .slice none 0 0], .int .i64 7]) (results_cell_tmp Tryz.results73 _ _ w.heap.size 65 _ (0, 0) _ rfl hhz Tryz.underlying65 rfl (by rw [info_ref]; rfl)) rfl
                  ⟨.inr ⟨HNo.out, rfl⟩, hBf.grown HGz.out hBf.size (fun j hj => by injection hj with hj; omega)⟩
              · obtain ⟨hN1, hn1⟩ := N1.out rfl
                obtain ⟨hN2, hn2⟩ := N2.out rfl
                have hw1 := nw9_dec _ (I1.out.1 rfl) HL1.out
                have hw2 := nw9_dec _ (I2.out.1 rfl) HL2.out
                clear N1 N2 I1 I2
                by_cases hD : decN (pLo s.data.toList) = 0
                · have HNo : Hid (∀ q, s.data.toList ≠ txt q) := par_no _ (fun h => h.2.2 hD)
                  have hz9 : ((n2 : Int) == 0) = true := by rw [hn2, hD, nw_zero9]; rfl
                  clear hn1 hn2 hN1 hN2 hw1 hw2
                  have hcell := KR.out w2 B2.out
                  have hBf := btr HB0.out B2.out
                  go_wp2_with (refine wpList_store_row 65 _ _ rfl rfl rfl w.heap.size 65 rfl [.bool false, .slice none 0 0, .slice none 0 0] rfl _ hcell rfl info_ref (ref_one _ _ _ _ _ _ _) ?_; intro wz hhz hgz hzz; have HGz := Lib.hid hgz; have HZz := Lib.hid hzz; clear hzz hgz hcell)
                  exact bodyPost_ret (v := .tuple #[.agg #[.bool false, .slice none 0 0, .slice none 0 0], .int .i64 7]) (results_cell_tmp Tryz.results73 _ _ w.heap.size 65 _ (0, 0) _ rfl hhz Tryz.underlying65 rfl (by rw [info_ref]; rfl)) rfl
                    ⟨.inr ⟨HNo.out, rfl⟩, hBf.grown HGz.out hBf.size (fun j hj => by injection hj with hj; omega)⟩
                · obtain ⟨q, hq1, hq2, hq3⟩ := par_rat (pBel s.data.toList) (decN (pUp s.data.toList)) (decN (pLo s.data.toList)) (by omega)
                  have HTq : Hid (∀ q', s.data.toList = txt q' → txt q = s.data.toList) := fun q' e => by
                    have h9 := par_txt s.data.toList q' e
                    rw [hq1, hq2, hq3] at h9
                    exact h9
                  have hk1 : nw9 q.num.natAbs ≤ 1112 := by rw [← hq2]; exact Nat.le_trans (nw_mono9 (Nat.div_le_self _ _)) hw1
                  have hk2 : nw9 q.den ≤ 1112 := by rw [← hq3]; exact Nat.le_trans (nw_mono9 (Nat.div_le_self _ _)) hw2
                  have HRd : Hid (Calls Tryz.prog 126 #[.bool (pBel s.data.toList), .slice A1 n1 c1, .slice A2 n2 c2] w2 fun e w' => ∃ r, e = .returned r ∧ RefV w' r q ∧ Below w2.heap.size w2 w') := by
                    refine (r_reduced w2 (pBel s.data.toList) _ _ _ _ (hN1.below B12.out) hN2 (by omega) (by omega) (by omega)).mono ?_
                    rintro e w' ⟨r, rfl, hr, hb⟩
                    rw [hq1, hq2, hq3] at hr
                    exact ⟨r, rfl, hr, hb⟩
                  have HKq : Hid (nw9 q.num.natAbs ≤ 1112 ∧ nw9 q.den ≤ 1112) := ⟨hk1, hk2⟩
                  have hz9 : ((n2 : Int) == 0) = false := by
                    rw [beq_eq_false_iff_ne]
                    have := (nw_pos9 (decN (pLo s.data.toList))).2 (by omega)
                    omega
                  rw [HB.out] at HRd
                  clear hn1 hn2 hN1 hN2 hw1 hw2 hq1 hq2 hq3 hk1 hk2 hD
                  go_wp2_with fail
                  refine HRd.out.mono ?_
                  rintro e w3 ⟨r, rfl, hr, hb3⟩
                  have HR3 := Lib.hid hr
                  have B3 := Lib.hid (btr B2.out hb3)
                  obtain ⟨u, v, rfl, hu, hv⟩ := hr
                  obtain ⟨A3, c3, rfl⟩ := hu.sl
                  obtain ⟨A4, c4, rfl⟩ := hv.sl
                  clear hu hv hb3 HRd
                  generalize decide (q.num < 0) = sb at *
                  have HKq2 : Hid (nw9 q.num.natAbs ≤ 100000 ∧ nw9 q.den ≤ 100000) := ⟨Nat.le_trans HKq.out.1 (by decide), Nat.le_trans HKq.out.2 (by decide)⟩
                  have HTT : Hid (∀ W r, RefV W r q → Calls Tryz.prog 76 #[r] W fun e w' => e = .returned (.string ⟨(txt q).toArray⟩) ∧ Below W.heap.size W w') := fun W r h => r_Text W r _ _ _ h HKq2.out.1 HKq2.out.2
                  clear HKq HKq2
                  generalize nw9 q.num.natAbs = m3 at *
                  generalize nw9 q.den = m4 at *
                  obtain ⟨w4, hw4, hb4, hz4, K4⟩ := ref_box w3 sb (.slice A3 m3 c3) (.slice A4 m4 c4)
                  have B4 := Lib.hid (btr B3.out hb4)
                  have HR4 := Lib.hid (HR3.out.below hb4)
                  have HT4 : Hid (Calls Tryz.prog 76 #[.agg #[.bool sb, .slice A3 m3 c3, .slice A4 m4 c4]] w4 fun e w' => e = .returned (.string ⟨(txt q).toArray⟩) ∧ Below w4.heap.size w4 w') := HTT.out w4 _ HR4.out
                  obtain ⟨x0, x1, x2⟩ := K4.out w4 (Below.refl _ _)
                  obtain ⟨Tb, hTb⟩ : ∃ Tb : ByteArray, Tb = ⟨(txt q).toArray⟩ := ⟨_, rfl⟩
                  rw [← hTb] at HT4
                  have HTb := Lib.hid hTb
                  clear hb4 hTb
                  go_wp2_with fail
                  refine HT4.out.mono ?_
                  rintro e w5 ⟨rfl, hb5⟩
                  have B5 := Lib.hid (btr B4.out hb5)
                  have HR5 := Lib.hid (HR4.out.below hb5)
                  clear x0 x1 x2
                  obtain ⟨x0, x1, x2⟩ := K4.out w5 hb5
                  clear hb5 HT4
                  by_cases hT : txt q = s.data.toList
                  · have e1 : Tb = s := by
                      rw [HTb.out, hT]
                    have HEq := Lib.hid hT
                    clear hT HTb
                    subst e1
                    have hcell := KR.out w5 B5.out
                    have HCell := Lib.hid hcell
                    have hBf := btr HB0.out B5.out
                    go_wp2_with (refine wpList_store_row 65 _ _ rfl rfl rfl w.heap.size 65 rfl [.bool sb, .slice A3 m3 c3, .slice A4 m4 c4] rfl _ hcell rfl info_ref (ref_one _ _ _ _ _ _ _) ?_; intro wz hhz hgz hzz; have HGz := Lib.hid hgz; have HZz := Lib.hid hzz; clear hzz hgz hcell)
                    have hno := ref_noint HCell.out
                    exact bodyPost_ret (v := .tuple #[.agg #[.bool sb, .slice A3 m3 c3, .slice A4 m4 c4], .int .i64 0]) (results_cell_tmp Tryz.results73 _ _ w.heap.size 65 _ (0, 0) _ rfl hhz Tryz.underlying65 rfl (by rw [info_ref]; rfl)) rfl
                      ⟨.inl ⟨_, q, rfl, HEq.out.symm, RefV.apartP HR5.out hno HGz.out⟩, hBf.grown HGz.out hBf.size (fun j hj => by injection hj with hj; omega)⟩
                  · have HNo : Hid (∀ q, s.data.toList ≠ txt q) := fun q' e => hT (HTq.out q' e)
                    have e1 : (Tb.toList == s.toList) = false := by
                      rw [beq_eq_false_iff_ne, ByteArray.toList_eq, ByteArray.toList_eq, HTb.out]
                      exact hT
                    clear hT HTb
                    have hcell := KR.out w5 B5.out
                    have hBf := btr HB0.out B5.out
                    go_wp2_with (refine wpList_store_row 65 _ _ rfl rfl rfl w.heap.size 65 rfl [.bool false, .slice none 0 0, .slice none 0 0] rfl _ hcell rfl info_ref (ref_one _ _ _ _ _ _ _) ?_; intro wz hhz hgz hzz; have HGz := Lib.hid hgz; have HZz := Lib.hid hzz; clear hzz hgz hcell)
                    exact bodyPost_ret (v := .tuple #[.agg #[.bool false, .slice none 0 0, .slice none 0 0], .int .i64 7]) (results_cell_tmp Tryz.results73 _ _ w.heap.size 65 _ (0, 0) _ rfl hhz Tryz.underlying65 rfl (by rw [info_ref]; rfl)) rfl
                      ⟨.inr ⟨HNo.out, rfl⟩, hBf.grown HGz.out hBf.size (fun j hj => by injection hj with hj; omega)⟩
          · have he2 : ((s[k].toNat : Int) == 47) = false := by simpa using he
            have HN1 : Hid (∀ j (h : j < s.size), j < k + 1 → ((s[j].toNat : Int) == 47) = false) := fun j h hj => by
              by_cases hjk : j = k
              · subst hjk; exact he2
              · exact HJ.out j h (by omega)
            clear HJ he
            go_wp2
            go_round
            case rel => exact ⟨k + 1, by omega, by go_num, rfl, rfl, HN1⟩
            case measure => simp [intOf]; omega
        · obtain ⟨hUl, hVl⟩ := cut_none s.data.toList s HR.out (fun j h => HJ.out j h (by omega))
          have HUl := Lib.hid hUl
          have HVl := Lib.hid hVl
          have BT : Hid (Below W0.heap.size W0 W0) := Below.refl _ _
          clear hUl hVl HJ
          go_wp2_with fail
          refine (r_number2 s _ HUl.out W0 HL1.out).mono ?_
          rintro e w1 ⟨A1, n1, c1, b1, rfl, hi1, hn1, hb1⟩
          have B1 := Lib.hid (btr BT.out hb1)
          have I1 := Lib.hid hi1
          have N1 := Lib.hid hn1
          clear hb1 hi1 hn1
          go_wp2_with fail
          refine (r_number2 ⟨#[49]⟩ _ HVl.out w1 HL2.out).mono ?_
          rintro e w2 ⟨A2, n2, c2, b2, rfl, hi2, hn2, hb2⟩
          have B2 := Lib.hid (btr B1.out hb2)
          have B12 := Lib.hid hb2
          have I2 := Lib.hid hi2
          have N2 := Lib.hid hn2
          clear hb2 hi2 hn2
          cases b1
          · have HNo : Hid (∀ q, s.data.toList ≠ txt q) := par_no _ (fun h => by have := I1.out.2 h.1; cases this)
            clear I1 N1 I2 N2
            have hcell := KR.out w2 B2.out
            have hBf := btr HB0.out B2.out
            go_wp2_with (refine wpList_store_row 65 _ _ rfl rfl rfl w.heap.size 65 rfl [.bool false, .slice none 0 0, .slice none 0 0] rfl _ hcell rfl info_ref (ref_one _ _ _ _ _ _ _) ?_; intro wz hhz hgz hzz; have HGz := Lib.hid hgz; have HZz := Lib.hid hzz; clear hzz hgz hcell)
            exact bodyPost_ret (v := .tuple #[.agg #[.bool false, .slice none 0 0, .slice none 0 0], .int .i64 7]) (results_cell_tmp Tryz.results73 _ _ w.heap.size 65 _ (0, 0) _ rfl hhz Tryz.underlying65 rfl (by rw [info_ref]; rfl)) rfl
              ⟨.inr ⟨HNo.out, rfl⟩, hBf.grown HGz.out hBf.size (fun j hj => by injection hj with hj; omega)⟩
          · cases b2
            · have HNo : Hid (∀ q, s.data.toList ≠ txt q) := par_no _ (fun h => by have := I2.out.2 h.2.1; cases this)
              clear I1 N1 I2 N2
              have hcell := KR.out w2 B2.out
              have hBf := btr HB0.out B2.out
              go_wp2_with (refine wpList_store_row 65 _ _ rfl rfl rfl w.heap.size 65 rfl [.bool false, .slice none 0 0, .slice none 0 0] rfl _ hcell rfl info_ref (ref_one _ _ _ _ _ _ _) ?_; intro wz hhz hgz hzz; have HGz := Lib.hid hgz; have HZz := Lib.hid hzz; clear hzz hgz hcell)
              exact bodyPost_ret (v := .tuple #[.agg #[.bool false, .slice none 0 0, .slice none 0 0], .int .i64 7]) (results_cell_tmp Tryz.results73 _ _ w.heap.size 65 _ (0, 0) _ rfl hhz Tryz.underlying65 rfl (by rw [info_ref]; rfl)) rfl
                ⟨.inr ⟨HNo.out, rfl⟩, hBf.grown HGz.out hBf.size (fun j hj => by injection hj with hj; omega)⟩
            · obtain ⟨hN1, hn1⟩ := N1.out rfl
              obtain ⟨hN2, hn2⟩ := N2.out rfl
              have hw1 := nw9_dec _ (I1.out.1 rfl) HL1.out
              have hw2 := nw9_dec _ (I2.out.1 rfl) HL2.out
              clear N1 N2 I1 I2
              by_cases hD : decN (pLo s.data.toList) = 0
              · have HNo : Hid (∀ q, s.data.toList ≠ txt q) := par_no _ (fun h => h.2.2 hD)
                have hz9 : ((n2 : Int) == 0) = true := by rw [hn2, hD, nw_zero9]; rfl
                clear hn1 hn2 hN1 hN2 hw1 hw2
                have hcell := KR.out w2 B2.out
                have hBf := btr HB0.out B2.out
                go_wp2_with (refine wpList_store_row 65 _ _ rfl rfl rfl w.heap.size 65 rfl [.bool false, .slice none 0 0, .slice none 0 0] rfl _ hcell rfl info_ref (ref_one _ _ _ _ _ _ _) ?_; intro wz hhz hgz hzz; have HGz := Lib.hid hgz; have HZz := Lib.hid hzz; clear hzz hgz hcell)
                exact bodyPost_ret (v := .tuple #[.agg #[.bool false, .slice none 0 0, .slice none 0 0], .int .i64 7]) (results_cell_tmp Tryz.results73 _ _ w.heap.size 65 _ (0, 0) _ rfl hhz Tryz.underlying65 rfl (by rw [info_ref]; rfl)) rfl
                  ⟨.inr ⟨HNo.out, rfl⟩, hBf.grown HGz.out hBf.size (fun j hj => by injection hj with hj; omega)⟩
              · obtain ⟨q, hq1, hq2, hq3⟩ := par_rat (pBel s.data.toList) (decN (pUp s.data.toList)) (decN (pLo s.data.toList)) (by omega)
                have HTq : Hid (∀ q', s.data.toList = txt q' → txt q = s.data.toList) := fun q' e => by
                  have h9 := par_txt s.data.toList q' e
                  rw [hq1, hq2, hq3] at h9
                  exact h9
                have hk1 : nw9 q.num.natAbs ≤ 1112 := by rw [← hq2]; exact Nat.le_trans (nw_mono9 (Nat.div_le_self _ _)) hw1
                have hk2 : nw9 q.den ≤ 1112 := by rw [← hq3]; exact Nat.le_trans (nw_mono9 (Nat.div_le_self _ _)) hw2
                have HRd : Hid (Calls Tryz.prog 126 #[.bool (pBel s.data.toList), .slice A1 n1 c1, .slice A2 n2 c2] w2 fun e w' => ∃ r, e = .returned r ∧ RefV w' r q ∧ Below w2.heap.size w2 w') := by
                  refine (r_reduced w2 (pBel s.data.toList) _ _ _ _ (hN1.below B12.out) hN2 (by omega) (by omega) (by omega)).mono ?_
                  rintro e w' ⟨r, rfl, hr, hb⟩
                  rw [hq1, hq2, hq3] at hr
                  exact ⟨r, rfl, hr, hb⟩
                have HKq : Hid (nw9 q.num.natAbs ≤ 1112 ∧ nw9 q.den ≤ 1112) := ⟨hk1, hk2⟩
                have hz9 : ((n2 : Int) == 0) = false := by
                  rw [beq_eq_false_iff_ne]
                  have := (nw_pos9 (decN (pLo s.data.toList))).2 (by omega)
                  omega
                rw [HB.out] at HRd
                clear hn1 hn2 hN1 hN2 hw1 hw2 hq1 hq2 hq3 hk1 hk2 hD
                go_wp2_with fail
                refine HRd.out.mono ?_
                rintro e w3 ⟨r, rfl, hr, hb3⟩
                have HR3 := Lib.hid hr
                have B3 := Lib.hid (btr B2.out hb3)
                obtain ⟨u, v, rfl, hu, hv⟩ := hr
                obtain ⟨A3, c3, rfl⟩ := hu.sl
                obtain ⟨A4, c4, rfl⟩ := hv.sl
                clear hu hv hb3 HRd
                generalize decide (q.num < 0) = sb at *
                have HKq2 : Hid (nw9 q.num.natAbs ≤ 100000 ∧ nw9 q.den ≤ 100000) := ⟨Nat.le_trans HKq.out.1 (by decide), Nat.le_trans HKq.out.2 (by decide)⟩
                have HTT : Hid (∀ W r, RefV W r q → Calls Tryz.prog 76 #[r] W fun e w' => e = .returned (.string ⟨(txt q).toArray⟩) ∧ Below W.heap.size W w') := fun W r h => r_Text W r _ _ _ h HKq2.out.1 HKq2.out.2
                clear HKq HKq2
                generalize nw9 q.num.natAbs = m3 at *
                generalize nw9 q.den = m4 at *
                obtain ⟨w4, hw4, hb4, hz4, K4⟩ := ref_box w3 sb (.slice A3 m3 c3) (.slice A4 m4 c4)
                have B4 := Lib.hid (btr B3.out hb4)
                have HR4 := Lib.hid (HR3.out.below hb4)
                have HT4 : Hid (Calls Tryz.prog 76 #[.agg #[.bool sb, .slice A3 m3 c3, .slice A4 m4 c4]] w4 fun e w' => e = .returned (.string ⟨(txt q).toArray⟩) ∧ Below w4.heap.size w4 w') := HTT.out w4 _ HR4.out
                obtain ⟨x0, x1, x2⟩ := K4.out w4 (Below.refl _ _)
                obtain ⟨Tb, hTb⟩ : ∃ Tb : ByteArray, Tb = ⟨(txt q).toArray⟩ := ⟨_, rfl⟩
                rw [← hTb] at HT4
                have HTb := Lib.hid hTb
                clear hb4 hTb
                go_wp2_with fail
                refine HT4.out.mono ?_
                rintro e w5 ⟨rfl, hb5⟩
                have B5 := Lib.hid (btr B4.out hb5)
                have HR5 := Lib.hid (HR4.out.below hb5)
                clear x0 x1 x2
                obtain ⟨x0, x1, x2⟩ := K4.out w5 hb5
                clear hb5 HT4
                by_cases hT : txt q = s.data.toList
                · have e1 : Tb = s := by
                    rw [HTb.out, hT]
                  have HEq := Lib.hid hT
                  clear hT HTb
                  subst e1
                  have hcell := KR.out w5 B5.out
                  have HCell := Lib.hid hcell
                  have hBf := btr HB0.out B5.out
                  go_wp2_with (refine wpList_store_row 65 _ _ rfl rfl rfl w.heap.size 65 rfl [.bool sb, .slice A3 m3 c3, .slice A4 m4 c4] rfl _ hcell rfl info_ref (ref_one _ _ _ _ _ _ _) ?_; intro wz hhz hgz hzz; have HGz := Lib.hid hgz; have HZz := Lib.hid hzz; clear hzz hgz hcell)
                  have hno := ref_noint HCell.out
                  exact bodyPost_ret (v := .tuple #[.agg #[.bool sb, .slice A3 m3 c3, .slice A4 m4 c4], .int .i64 0]) (results_cell_tmp Tryz.results73 _ _ w.heap.size 65 _ (0, 0) _ rfl hhz Tryz.underlying65 rfl (by rw [info_ref]; rfl)) rfl
                    ⟨.inl ⟨_, q, rfl, HEq.out.symm, RefV.apartP HR5.out hno HGz.out⟩, hBf.grown HGz.out hBf.size (fun j hj => by injection hj with hj; omega)⟩
                · have HNo : Hid (∀ q, s.data.toList ≠ txt q) := fun q' e => hT (HTq.out q' e)
                  have e1 : (Tb.toList == s.toList) = false := by
                    rw [beq_eq_false_iff_ne, ByteArray.toList_eq, ByteArray.toList_eq, HTb.out]
                    exact hT
                  clear hT HTb
                  have hcell := KR.out w5 B5.out
                  have hBf := btr HB0.out B5.out
                  go_wp2_with (refine wpList_store_row 65 _ _ rfl rfl rfl w.heap.size 65 rfl [.bool false, .slice none 0 0, .slice none 0 0] rfl _ hcell rfl info_ref (ref_one _ _ _ _ _ _ _) ?_; intro wz hhz hgz hzz; have HGz := Lib.hid hgz; have HZz := Lib.hid hzz; clear hzz hgz hcell)
                  exact bodyPost_ret (v := .tuple #[.agg #[.bool false, .slice none 0 0, .slice none 0 0], .int .i64 7]) (results_cell_tmp Tryz.results73 _ _ w.heap.size 65 _ (0, 0) _ rfl hhz Tryz.underlying65 rfl (by rw [info_ref]; rfl)) rfl
                    ⟨.inr ⟨HNo.out, rfl⟩, hBf.grown HGz.out hBf.size (fun j hj => by injection hj with hj; omega)⟩
  · obtain ⟨hB, hR⟩ := trim_pos s (.inl hz)
    have HB := Lib.hid hB
    have HR := Lib.hid hR
    have hzs : (s.size : Int) = 0 := by omega
    clear hB hlen hR
    go_enter Tryz.func73, Tryz.ntmps73
    go_wp2
    go_loop [6, 7, 8] (fun nu de i => ∃ k : Nat, k ≤ s.size ∧ i = .int .i64 k ∧ nu = .string s ∧ de = .string ⟨#[49]⟩ ∧ Hid (∀ j (h : j < s.size), j < k → ((s[j].toNat : Int) == 47) = false)) (fun _ _ i => s.size - (intOf i).toNat)
    case atStart => exact ⟨0, Nat.zero_le _, rfl, rfl, rfl, fun j _ hj => absurd hj (by omega)⟩
    case round =>
      obtain ⟨k, hk, rfl, rfl, rfl, HJ⟩ := hrel
      by_cases hlt : k < s.size
      · exact absurd hlt (by omega)
      · obtain ⟨hUl, hVl⟩ := cut_none s.data.toList s HR.out (fun j h => HJ.out j h (by omega))
        have HUl := Lib.hid hUl
        have HVl := Lib.hid hVl
        have BT : Hid (Below W0.heap.size W0 W0) := Below.refl _ _
        clear hUl hVl HJ
        go_wp2_with fail
        refine (r_number2 s _ HUl.out W0 HL1.out).mono ?_
        rintro e w1 ⟨A1, n1, c1, b1, rfl, hi1, hn1, hb1⟩
        have B1 := Lib.hid (btr BT.out hb1)
        have I1 := Lib.hid hi1
        have N1 := Lib.hid hn1
        clear hb1 hi1 hn1
        go_wp2_with fail
        refine (r_number2 ⟨#[49]⟩ _ HVl.out w1 HL2.out).mono ?_
        rintro e w2 ⟨A2, n2, c2, b2, rfl, hi2, hn2, hb2⟩
        have B2 := Lib.hid (btr B1.out hb2)
        have B12 := Lib.hid hb2
        have I2 := Lib.hid hi2
        have N2 := Lib.hid hn2
        clear hb2 hi2 hn2
        cases b1
        · have HNo : Hid (∀ q, s.data.toList ≠ txt q) := par_no _ (fun h => by have := I1.out.2 h.1; cases this)
          clear I1 N1 I2 N2
          have hcell := KR.out w2 B2.out
          have hBf := btr HB0.out B2.out
          go_wp2_with (refine wpList_store_row 65 _ _ rfl rfl rfl w.heap.size 65 rfl [.bool false, .slice none 0 0, .slice none 0 0] rfl _ hcell rfl info_ref (ref_one _ _ _ _ _ _ _) ?_; intro wz hhz hgz hzz; have HGz := Lib.hid hgz; have HZz := Lib.hid hzz; clear hzz hgz hcell)
          exact bodyPost_ret (v := .tuple #[.agg #[.bool false, .slice none 0 0, .slice none 0 0], .int .i64 7]) (results_cell_tmp Tryz.results73 _ _ w.heap.size 65 _ (0, 0) _ rfl hhz Tryz.underlying65 rfl (by rw [info_ref]; rfl)) rfl
            ⟨.inr ⟨HNo.out, rfl⟩, hBf.grown HGz.out hBf.size (fun j hj => by injection hj with hj; omega)⟩
        · cases b2
          · have HNo : Hid (∀ q, s.data.toList ≠ txt q) := par_no _ (fun h => by have := I2.out.2 h.2.1; cases this)
            clear I1 N1 I2 N2
            have hcell := KR.out w2 B2.out
            have hBf := btr HB0.out B2.out
            go_wp2_with (refine wpList_store_row 65 _ _ rfl rfl rfl w.heap.size 65 rfl [.bool false, .slice none 0 0, .slice none 0 0] rfl _ hcell rfl info_ref (ref_one _ _ _ _ _ _ _) ?_; intro wz hhz hgz hzz; have HGz := Lib.hid hgz; have HZz := Lib.hid hzz; clear hzz hgz hcell)
            exact bodyPost_ret (v := .tuple #[.agg #[.bool false, .slice none 0 0, .slice none 0 0], .int .i64 7]) (results_cell_tmp Tryz.results73 _ _ w.heap.size 65 _ (0, 0) _ rfl hhz Tryz.underlying65 rfl (by rw [info_ref]; rfl)) rfl
              ⟨.inr ⟨HNo.out, rfl⟩, hBf.grown HGz.out hBf.size (fun j hj => by injection hj with hj; omega)⟩
          · obtain ⟨hN1, hn1⟩ := N1.out rfl
            obtain ⟨hN2, hn2⟩ := N2.out rfl
            have hw1 := nw9_dec _ (I1.out.1 rfl) HL1.out
            have hw2 := nw9_dec _ (I2.out.1 rfl) HL2.out
            clear N1 N2 I1 I2
            by_cases hD : decN (pLo s.data.toList) = 0
            · have HNo : Hid (∀ q, s.data.toList ≠ txt q) := par_no _ (fun h => h.2.2 hD)
              have hz9 : ((n2 : Int) == 0) = true := by rw [hn2, hD, nw_zero9]; rfl
              clear hn1 hn2 hN1 hN2 hw1 hw2
              have hcell := KR.out w2 B2.out
              have hBf := btr HB0.out B2.out
              go_wp2_with (refine wpList_store_row 65 _ _ rfl rfl rfl w.heap.size 65 rfl [.bool false, .slice none 0 0, .slice none 0 0] rfl _ hcell rfl info_ref (ref_one _ _ _ _ _ _ _) ?_; intro wz hhz hgz hzz; have HGz := Lib.hid hgz; have HZz := Lib.hid hzz; clear hzz hgz hcell)
              exact bodyPost_ret (v := .tuple #[.agg #[.bool false, .slice none 0 0, .slice none 0 0], .int .i64 7]) (results_cell_tmp Tryz.results73 _ _ w.heap.size 65 _ (0, 0) _ rfl hhz Tryz.underlying65 rfl (by rw [info_ref]; rfl)) rfl
                ⟨.inr ⟨HNo.out, rfl⟩, hBf.grown HGz.out hBf.size (fun j hj => by injection hj with hj; omega)⟩
            · obtain ⟨q, hq1, hq2, hq3⟩ := par_rat (pBel s.data.toList) (decN (pUp s.data.toList)) (decN (pLo s.data.toList)) (by omega)
              have HTq : Hid (∀ q', s.data.toList = txt q' → txt q = s.data.toList) := fun q' e => by
                have h9 := par_txt s.data.toList q' e
                rw [hq1, hq2, hq3] at h9
                exact h9
              have hk1 : nw9 q.num.natAbs ≤ 1112 := by rw [← hq2]; exact Nat.le_trans (nw_mono9 (Nat.div_le_self _ _)) hw1
              have hk2 : nw9 q.den ≤ 1112 := by rw [← hq3]; exact Nat.le_trans (nw_mono9 (Nat.div_le_self _ _)) hw2
              have HRd : Hid (Calls Tryz.prog 126 #[.bool (pBel s.data.toList), .slice A1 n1 c1, .slice A2 n2 c2] w2 fun e w' => ∃ r, e = .returned r ∧ RefV w' r q ∧ Below w2.heap.size w2 w') := by
                refine (r_reduced w2 (pBel s.data.toList) _ _ _ _ (hN1.below B12.out) hN2 (by omega) (by omega) (by omega)).mono ?_
                rintro e w' ⟨r, rfl, hr, hb⟩
                rw [hq1, hq2, hq3] at hr
                exact ⟨r, rfl, hr, hb⟩
              have HKq : Hid (nw9 q.num.natAbs ≤ 1112 ∧ nw9 q.den ≤ 1112) := ⟨hk1, hk2⟩
              have hz9 : ((n2 : Int) == 0) = false := by
                rw [beq_eq_false_iff_ne]
                have := (nw_pos9 (decN (pLo s.data.toList))).2 (by omega)
                omega
              rw [HB.out] at HRd
              clear hn1 hn2 hN1 hN2 hw1 hw2 hq1 hq2 hq3 hk1 hk2 hD
              go_wp2_with fail
              refine HRd.out.mono ?_
              rintro e w3 ⟨r, rfl, hr, hb3⟩
              have HR3 := Lib.hid hr
              have B3 := Lib.hid (btr B2.out hb3)
              obtain ⟨u, v, rfl, hu, hv⟩ := hr
              obtain ⟨A3, c3, rfl⟩ := hu.sl
              obtain ⟨A4, c4, rfl⟩ := hv.sl
              clear hu hv hb3 HRd
              generalize decide (q.num < 0) = sb at *
              have HKq2 : Hid (nw9 q.num.natAbs ≤ 100000 ∧ nw9 q.den ≤ 100000) := ⟨Nat.le_trans HKq.out.1 (by decide), Nat.le_trans HKq.out.2 (by decide)⟩
              have HTT : Hid (∀ W r, RefV W r q → Calls Tryz.prog 76 #[r] W fun e w' => e = .returned (.string ⟨(txt q).toArray⟩) ∧ Below W.heap.size W w') := fun W r h => r_Text W r _ _ _ h HKq2.out.1 HKq2.out.2
              clear HKq HKq2
              generalize nw9 q.num.natAbs = m3 at *
              generalize nw9 q.den = m4 at *
              obtain ⟨w4, hw4, hb4, hz4, K4⟩ := ref_box w3 sb (.slice A3 m3 c3) (.slice A4 m4 c4)
              have B4 := Lib.hid (btr B3.out hb4)
              have HR4 := Lib.hid (HR3.out.below hb4)
              have HT4 : Hid (Calls Tryz.prog 76 #[.agg #[.bool sb, .slice A3 m3 c3, .slice A4 m4 c4]] w4 fun e w' => e = .returned (.string ⟨(txt q).toArray⟩) ∧ Below w4.heap.size w4 w') := HTT.out w4 _ HR4.out
              obtain ⟨x0, x1, x2⟩ := K4.out w4 (Below.refl _ _)
              obtain ⟨Tb, hTb⟩ : ∃ Tb : ByteArray, Tb = ⟨(txt q).toArray⟩ := ⟨_, rfl⟩
              rw [← hTb] at HT4
              have HTb := Lib.hid hTb
              clear hb4 hTb
              go_wp2_with fail
              refine HT4.out.mono ?_
              rintro e w5 ⟨rfl, hb5⟩
              have B5 := Lib.hid (btr B4.out hb5)
              have HR5 := Lib.hid (HR4.out.below hb5)
              clear x0 x1 x2
              obtain ⟨x0, x1, x2⟩ := K4.out w5 hb5
              clear hb5 HT4
              by_cases hT : txt q = s.data.toList
              · have e1 : Tb = s := by
                  rw [HTb.out, hT]
                have HEq := Lib.hid hT
                clear hT HTb
                subst e1
                have hcell := KR.out w5 B5.out
                have HCell := Lib.hid hcell
                have hBf := btr HB0.out B5.out
                go_wp2_with (refine wpList_store_row 65 _ _ rfl rfl rfl w.heap.size 65 rfl [.bool sb, .slice A3 m3 c3, .slice A4 m4 c4] rfl _ hcell rfl info_ref (ref_one _ _ _ _ _ _ _) ?_; intro wz hhz hgz hzz; have HGz := Lib.hid hgz; have HZz := Lib.hid hzz; clear hzz hgz hcell)
                have hno := ref_noint HCell.out
                exact bodyPost_ret (v := .tuple #[.agg #[.bool sb, .slice A3 m3 c3, .slice A4 m4 c4], .int .i64 0]) (results_cell_tmp Tryz.results73 _ _ w.heap.size 65 _ (0, 0) _ rfl hhz Tryz.underlying65 rfl (by rw [info_ref]; rfl)) rfl
                  ⟨.inl ⟨_, q, rfl, HEq.out.symm, RefV.apartP HR5.out hno HGz.out⟩, hBf.grown HGz.out hBf.size (fun j hj => by injection hj with hj; omega)⟩
              · have HNo : Hid (∀ q, s.data.toList ≠ txt q) := fun q' e => hT (HTq.out q' e)
                have e1 : (Tb.toList == s.toList) = false := by
                  rw [beq_eq_false_iff_ne, ByteArray.toList_eq, ByteArray.toList_eq, HTb.out]
                  exact hT
                clear hT HTb
                have hcell := KR.out w5 B5.out
                have hBf := btr HB0.out B5.out
                go_wp2_with (refine wpList_store_row 65 _ _ rfl rfl rfl w.heap.size 65 rfl [.bool false, .slice none 0 0, .slice none 0 0] rfl _ hcell rfl info_ref (ref_one _ _ _ _ _ _ _) ?_; intro wz hhz hgz hzz; have HGz := Lib.hid hgz; have HZz := Lib.hid hzz; clear hzz hgz hcell)
                exact bodyPost_ret (v := .tuple #[.agg #[.bool false, .slice none 0 0, .slice none 0 0], .int .i64 7]) (results_cell_tmp Tryz.results73 _ _ w.heap.size 65 _ (0, 0) _ rfl hhz Tryz.underlying65 rfl (by rw [info_ref]; rfl)) rfl
                  ⟨.inr ⟨HNo.out, rfl⟩, hBf.grown HGz.out hBf.size (fun j hj => by injection hj with hj; omega)⟩
end Go.Proofs.YtmejbkfamapnkaaGreatDoor
end
