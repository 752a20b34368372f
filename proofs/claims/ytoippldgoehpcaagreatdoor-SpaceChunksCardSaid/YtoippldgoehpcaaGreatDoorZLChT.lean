/- The walk of SpaceChunks. -/
import Derived.Test.YtoippldgoehpcaaGreatDoorZChF
import Derived.Test.YtoippldgoehpcaaGreatDoorZCloW
import Derived.Test.YtoippldgoehpcaaGreatDoorZLS
import Derived.Test.YtoippldgoehpcaaGreatDoorZWka
namespace Go.Proofs.YtoippldgoehpcaaGreatDoor
open Go Go.RowKit Go.Deep

theorem cinTo_of {lo hi sd c : Nat → Int} : ∀ {n : Nat}, (∀ k, k < n → 0 ≤ c k ∧ c k ≤ lcZ (lo k) (hi k) (sd k)) → cinTo lo hi sd c n = true
  | 0, _ => rfl
  | n + 1, h => by rw [cinTo, cinTo_of fun k hk => h k (by omega), decide_eq_true (h n (by omega))]; rfl
theorem rg_in {P : Program} {ops : Array Oper} {Q : Exit → Act → World → Prop} {md : Region.Mode} {S : World → Prop} {fuel : Nat} {listed : Array Bool} {a : Act} {w : World} {oi : Oper} {v : Value} (i : Nat) (hi : ops[i]? = some oi)
    (hs : Region.noSelect ops = true) (hf : Region.free md ops listed i = true) (hr : (Region.ready md ops listed).contains i = true) (hQ : ∀ c a w, Q (.panic c) (a.put oi.dst v) w → Q (.panic c) a w)
    (hw : Region.wanted oi (yielded ops a.tmps) = true) (hy : ∀ w, S w → (execOp a.eval oi).run P w = .ok (.value v) w) (hS : S w) (h : wpAnyH P md ops Q S fuel (listed.setIfInBounds i true) (a.put oi.dst v) w) : wpAnyH P md ops Q S (fuel + 1) listed a w := wpAnyH_take hi hs hf hr hQ (.inl ⟨hw, hy⟩) hS h
theorem rg_out {P : Program} {ops : Array Oper} {Q : Exit → Act → World → Prop} {md : Region.Mode} {S : World → Prop} {fuel : Nat} {listed : Array Bool} {a : Act} {w : World} {oi : Oper} (i : Nat) (hi : ops[i]? = some oi)
    (hs : Region.noSelect ops = true) (hf : Region.free md ops listed i = true) (hr : (Region.ready md ops listed).contains i = true) (hQ : ∀ c a w, Q (.panic c) (a.put oi.dst undef) w → Q (.panic c) a w)
    (hw : Region.wanted oi (yielded ops a.tmps) = false) (hS : S w) (h : wpAnyH P md ops Q S fuel (listed.setIfInBounds i true) (a.put oi.dst undef) w) : wpAnyH P md ops Q S (fuel + 1) listed a w := wpAnyH_take hi hs hf hr hQ (.inr ⟨hw, rfl⟩) hS h
theorem bel9 (W : World) (o : Obj) : Below W.heap.size W (W.alloc o) := (Below.refl _ _).alloc (Nat.le_refl _) _
theorem ints_off {w : World} {c b n : Nat} {f : Nat → Int} {A : Option Addr} {m d : Nat} (h : IntsAt w (some ⟨c, 0, none⟩) n f) (hn : 1 ≤ n) (hb : w.cell? ⟨b, 0, none⟩ = some (.slice A m d)) : c ≠ b := fun e => by
  obtain ⟨b', o', e1, _, h2⟩ := h hn
  injection e1 with e1
  injection e1 with e1 e2
  subst e1 e2
  have h3 := h2 0 (by omega)
  rw [e] at h3
  rw [show (0 : Nat) + 0 = 0 from rfl, hb] at h3
  cases h3
theorem ints_set {w : World} {c b i n : Nat} {f : Nat → Int} {u : Value} (h : IntsAt w (some ⟨c, 0, none⟩) n f) (hc : c ≠ b) : IntsAt (w.setCell ⟨b, i, none⟩ u) (some ⟨c, 0, none⟩) n f := fun hn => by
  obtain ⟨b', o', e1, h1, h2⟩ := h hn
  injection e1 with e1
  injection e1 with e1 e2
  subst e1 e2
  exact ⟨c, 0, rfl, by simpa [World.setCell] using h1, fun k hk => by rw [cell_blk (blk_setCell_other _ _ _ _ (by show c ≠ b; exact hc))]; exact h2 k hk⟩
theorem ints_upd {w : World} {D cap n i : Nat} {g : Nat → Value} {f : Nat → Int} (hrow : w.rowIs D 3 cap g) (hcap : n ≤ cap) (hg : ∀ j, j < n → g j = .int .i64 (f j)) (v : Int) : IntsAt (w.setCell ⟨D, i, none⟩ (.int .i64 v)) (some ⟨D, 0, none⟩) n (updZ f i v) := fun hn => by
  have h1 := hrow.set i (.int .i64 v)
  refine ⟨D, 0, rfl, h1.lt, fun k hk => ?_⟩
  rw [Nat.zero_add, h1.cell (by omega)]
  unfold updZ
  by_cases e : k = i
  · simp only [if_pos e]
  · simp only [if_neg e]
    rw [hg k hk]
/-- Coordinates within bounds: inside says so. -/
theorem in_true (W : World) (L H X : Option Addr) (n c d e : Nat) (l h v : Nat → Int) (hl : IntsAt W L n l) (hh : IntsAt W H n h) (hx : IntsAt W X n v) (hn : n ≤ 1000000) (hv : insTo l h v n = true) :
    Calls Tryz.prog 62 #[BoxW L H n c n d, .slice X n e] W fun e w' => e = .returned (.bool true) ∧ Below W.heap.size W w' := by
  have h9 := l_inside W L H X n c d e l h v hl hh hx hn
  rw [hv] at h9
  exact h9

set_option maxRecDepth 100000 in
set_option maxHeartbeats 400000000 in
theorem l_chunks (w : World) (A S O X : Option Addr) (n cap s sc o oc m mc : Nat) (nm : Nat → ByteArray) (lo hi sd ov xs : Nat → Int) (ord tile form codec : Int) (hd : DimsAt w A n nm lo hi) (hns : ∀ k, k < n → (nm k).size ≤ 9223372036854775807) (hn : n ≤ 9223372036854775807) (hs : IntsAt w S s sd) (ho : IntsAt w O o ov) (hx : IntsAt w X m xs) (hw : WorksAt w) :
    Calls Tryz.prog 11 #[.slice A n cap, LayV S s sc O o oc ord tile form codec, .slice X m mc] w fun e w' => e = .returned (.bool true) ∧ Below w.heap.size w w' := by
  have HW := Lib.hid hw
  have HD := Lib.hid hd
  have HSd := Lib.hid hs
  have HO := Lib.hid ho
  have HX := Lib.hid hx
  have KB := Lib.hid (lay_box w S O s sc o oc ord tile form codec)
  have hz0 : (w.alloc (.cells #[.slice S s sc, .slice O o oc, .int .i64 ord, .int .i64 tile, .int .i64 form, .int .i64 codec] 75)).heap.size = w.heap.size + 1 := by simp
  have HB : Hid (Below w.heap.size w (w.alloc (.cells #[.slice S s sc, .slice O o oc, .int .i64 ord, .int .i64 tile, .int .i64 form, .int .i64 codec] 75))) := (Below.refl _ _).alloc (Nat.le_refl _) _
  have HS : Hid (Calls Tryz.prog 19 #[.slice A n cap, .slice none 0 0] (w.alloc (.cells #[.slice S s sc, .slice O o oc, .int .i64 ord, .int .i64 tile, .int .i64 form, .int .i64 codec] 75)) fun e w' => ∃ b : Bool, e = .returned (.bool b) ∧ (b = true → n ≤ 10) ∧ Below (w.heap.size + 1) (w.alloc (.cells #[.slice S s sc, .slice O o oc, .int .i64 ord, .int .i64 tile, .int .i64 form, .int .i64 codec] 75)) w') := by
    have h := l_schema _ A n cap nm lo hi (hd.below HB.out) hns hn
    rw [hz0] at h
    exact h
  have HL := Lib.hid (l_layout S O s sc o oc ord tile form codec)
  rw [hz0] at KB
  clear hw hd hs ho hx hns
  go_enter Tryz.func11, Tryz.ntmps11
  go_wp2_with fail
  generalize w.alloc (.cells #[.slice S s sc, .slice O o oc, .int .i64 ord, .int .i64 tile, .int .i64 form, .int .i64 codec] 75) = W0 at *
  refine HS.out.mono ?_
  rintro e w1 ⟨c, rfl, hc, hb1⟩
  have HB01 := Lib.hid hb1
  have HB1 : Hid (Below w.heap.size w w1) := Below.trans HB.out (hb1.mono (by omega))
  have HC := Lib.hid hc
  clear HS hc hb1 HB
  obtain ⟨l0, l1, l2, l3, l4, l5⟩ := KB.out w1 HB01.out
  cases c
  · clear HC
    go_wp2_with fail
    refine (HW.out _ HB1.out).mono ?_
    rintro e w2 ⟨rfl, hb2⟩
    go_wp2
    go_ret
    exact ⟨rfl, st HB1.out hb2⟩
  · have hn10 : n ≤ 10 := HC.out rfl
    clear HC hn
    cases hlay : decide (s ≤ 10) && decide (o ≤ 10)
    · rw [hlay] at HL
      clear hlay
      go_wp2_with (first | (go_at_call 44; refine (HL.out _).mono ?_; rintro e w2 ⟨rfl, hb2⟩; have HB2 : Hid (Below w.heap.size w w2) := st HB1.out hb2) | (go_at_call 16; refine (HW.out _ HB2.out).mono ?_; rintro e w9 ⟨rfl, hb9⟩))
      go_ret
      exact ⟨rfl, st HB2.out hb9⟩
    · rw [hlay] at HL
      have hso : s ≤ 10 ∧ o ≤ 10 := by simpa using hlay
      obtain ⟨hs10, ho10⟩ := hso
      clear hlay
      go_wp2_with fail
      refine (HL.out _).mono ?_
      rintro e w2 ⟨rfl, hb2⟩
      have HB2 : Hid (Below w.heap.size w w2) := st HB1.out hb2
      have HB02 : Hid (Below (w.heap.size + 1) W0 w2) := HB01.out.trans (hb2.mono (by rw [← hz0]; exact HB01.out.size))
      clear hb2 HB1 HB01 HL l0 l1 l2 l3 l4 l5
      by_cases hm : (m : Int) > 10
      · go_wp2_with fail
        refine (HW.out _ HB2.out).mono ?_
        rintro e w3 ⟨rfl, hb3⟩
        go_wp2
        go_ret
        exact ⟨rfl, st HB2.out hb3⟩
      · have hm10 : m ≤ 10 := by omega
        by_cases he : atE nm lo hi n sd ov s o ord tile form codec xs m = 0
        · obtain ⟨hsn, hon, hmn, h1n, hn4, hf⟩ := at_facts he
          have hl0 := (at_zero he).1
          have HL0 := Lib.hid hl0
          clear hl0
          have HE := Lib.hid he
          clear he
          have hsn := hsn.symm
          subst hsn
          have hon := hon.symm
          subst hon
          have hmn := hmn.symm
          subst hmn
          have HOK : Hid (ChOk lo hi sd ov xs n) := hf
          clear hf hs10 ho10 hm hm10
          have HC1 : Hid (∀ W, Below w.heap.size w W → Calls Tryz.prog 47 #[.slice A n cap, LayV S n sc O n oc ord tile form codec, .slice X n mc] W fun e w' => ∃ b, e = .returned (.tuple #[.slice (some ⟨b, 0, none⟩) n n, .int .i64 0]) ∧ IntsAt w' (some ⟨b, 0, none⟩) n (chZ lo sd xs) ∧ Below W.heap.size W w') := fun W hW => (s_Chunk W A S O X n cap n sc n oc n mc nm lo hi sd ov xs ord tile form codec (HD.out.below hW) (HSd.out.below hW) (HO.out.below hW) (HX.out.below hW) (by omega) (by omega) (by omega) (by omega) HE.out).mono fun e w' ⟨b, h1, _, h2, h3⟩ => ⟨b, h1, ints_row h2, h3⟩
          have HC2 : Hid (∀ W, Below w.heap.size w W → Calls Tryz.prog 49 #[.slice A n cap, LayV S n sc O n oc ord tile form codec, .slice X n mc] W fun e w' => ∃ P c, e = .returned (.tuple #[.slice P (volC (homeN lo hi sd ov xs) n 0) c, .int .i64 0]) ∧ ListsAt w' P (volC (homeN lo hi sd ov xs) n 0) (fun _ => n) (fun t => crdZ (homeLo lo sd ov xs) (homeN lo hi sd ov xs) n t) ∧ Below W.heap.size W w') := fun W hW => h_Homes W A S O X n cap n sc n oc n mc nm lo hi sd ov xs ord tile form codec (HD.out.below hW) (HSd.out.below hW) (HO.out.below hW) (HX.out.below hW) (by omega) (by omega) (by omega) (by omega) HE.out
          have hcE : ∀ v : Nat → Int, (∀ k, k < n → 0 ≤ v k ∧ v k ≤ lcZ (lo k) (hi k) (sd k)) → coreE nm lo hi n sd ov n n ord tile form codec v n = 0 := fun v hv => by
            rw [coreE, if_neg (by rw [HL0.out]; simp), if_neg (by simp), cinTo_of hv]; rfl
          have HCo : Hid (∀ W Y cy v, Below w.heap.size w W → IntsAt W Y n v → (∀ k, k < n → 0 ≤ v k ∧ v k ≤ lcZ (lo k) (hi k) (sd k)) → Calls Tryz.prog 53 #[.slice A n cap, LayV S n sc O n oc ord tile form codec, .slice Y n cy] W fun e w' => ∃ b b2, e = .returned (.tuple #[BoxV (some ⟨b, 0, none⟩) (some ⟨b2, 0, none⟩) n n n n, .int .i64 0]) ∧ IntsAt w' (some ⟨b, 0, none⟩) n (coreLo lo sd v) ∧ IntsAt w' (some ⟨b2, 0, none⟩) n (coreHi lo hi sd v) ∧ Below W.heap.size W w') := fun W Y cy v hW hY hv => (s_Core W A S O Y n cap n sc n oc n cy nm lo hi sd ov v ord tile form codec (HD.out.below hW) (HSd.out.below hW) (HO.out.below hW) hY (by omega) (by omega) (by omega) (by omega) (hcE v hv)).mono fun e w' ⟨b, b2, h1, _, _, _, h2, h3, h4⟩ => ⟨b, b2, h1, ints_row h2, ints_row h3, h4⟩
          have HWi : Hid (∀ W Y cy v, Below w.heap.size w W → IntsAt W Y n v → (∀ k, k < n → 0 ≤ v k ∧ v k ≤ lcZ (lo k) (hi k) (sd k)) → Calls Tryz.prog 55 #[.slice A n cap, LayV S n sc O n oc ord tile form codec, .slice Y n cy] W fun e w' => ∃ b b2, e = .returned (.tuple #[BoxV (some ⟨b, 0, none⟩) (some ⟨b2, 0, none⟩) n n n n, .int .i64 0]) ∧ IntsAt w' (some ⟨b, 0, none⟩) n (wideLo lo sd ov v) ∧ IntsAt w' (some ⟨b2, 0, none⟩) n (wideHi lo hi sd ov v) ∧ Below W.heap.size W w') := fun W Y cy v hW hY hv => (s_Wide W A S O Y n cap n sc n oc n cy nm lo hi sd ov v ord tile form codec (HD.out.below hW) (HSd.out.below hW) (HO.out.below hW) hY (by omega) (by omega) (by omega) (by omega) (hcE v hv)).mono fun e w' ⟨b, b2, h1, _, _, _, h2, h3, h4⟩ => ⟨b, b2, h1, ints_row h2, ints_row h3, h4⟩
          have HCf : Hid (∀ W Y cy v, Below w.heap.size w W → IntsAt W Y n v → cinTo lo hi sd v n = false → Calls Tryz.prog 53 #[.slice A n cap, LayV S n sc O n oc ord tile form codec, .slice Y n cy] W fun e w' => e = .returned (.tuple #[BoxV none none 0 0 0 0, .int .i64 3]) ∧ Below W.heap.size W w') := fun W Y cy v hW hY hv => s_Core_far W A S O Y n cap n sc n oc n cy nm lo hi sd ov v ord tile form codec (HD.out.below hW) (HSd.out.below hW) (HO.out.below hW) hY (by omega) (by omega) (by omega) (by omega) HL0.out rfl hv
          have HWf : Hid (∀ W Y cy v, Below w.heap.size w W → IntsAt W Y n v → cinTo lo hi sd v n = false → Calls Tryz.prog 55 #[.slice A n cap, LayV S n sc O n oc ord tile form codec, .slice Y n cy] W fun e w' => e = .returned (.tuple #[BoxV none none 0 0 0 0, .int .i64 3]) ∧ Below W.heap.size W w') := fun W Y cy v hW hY hv => s_Wide_far W A S O Y n cap n sc n oc n cy nm lo hi sd ov v ord tile form codec (HD.out.below hW) (HSd.out.below hW) (HO.out.below hW) hY (by omega) (by omega) (by omega) (by omega) HL0.out rfl hv
          clear hcE
          have HV : Hid (∀ k, k < n → 0 ≤ chZ lo sd xs k ∧ chZ lo sd xs k ≤ lcZ (lo k) (hi k) (sd k)) := fun k hk => (ch_at HOK.out hk).1
          have HI1 : Hid (insTo (coreLo lo sd (chZ lo sd xs)) (coreHi lo hi sd (chZ lo sd xs)) xs n = true) := insTo_iff.2 fun k hk => (ch_at HOK.out hk).2.1
          have HI2 : Hid (insTo (wideLo lo sd ov (chZ lo sd xs)) (wideHi lo hi sd ov (chZ lo sd xs)) xs n = true) := insTo_iff.2 fun k hk => (ch_at HOK.out hk).2.2.1
          have HI3 : Hid (insTo (wideLo lo sd ov (chZ lo sd xs)) (wideHi lo hi sd ov (chZ lo sd xs)) (coreLo lo sd (chZ lo sd xs)) n = true) := insTo_iff.2 fun k hk => (ch_at HOK.out hk).2.2.2.1
          have HI4 : Hid (insTo (wideLo lo sd ov (chZ lo sd xs)) (wideHi lo hi sd ov (chZ lo sd xs)) (coreHi lo hi sd (chZ lo sd xs)) n = true) := insTo_iff.2 fun k hk => (ch_at HOK.out hk).2.2.2.2
          have HAm : Hid (∀ v : Nat → Int, (∀ k, k < n → 0 ≤ v k ∧ v k ≤ lcZ (lo k) (hi k) (sd k)) → amTo (fun _ => n) (fun t => crdZ (homeLo lo sd ov xs) (homeN lo hi sd ov xs) n t) n v (volC (homeN lo hi sd ov xs) n 0) = insTo (wideLo lo sd ov v) (wideHi lo hi sd ov v) xs n) := fun v hv => among_wide HOK.out hv
          have HEa : Hid (∀ t, t < volC (homeN lo hi sd ov xs) n 0 → (∀ k, k < n → 0 ≤ crdZ (homeLo lo sd ov xs) (homeN lo hi sd ov xs) n t k ∧ crdZ (homeLo lo sd ov xs) (homeN lo hi sd ov xs) n t k ≤ lcZ (lo k) (hi k) (sd k)) ∧ insTo (wideLo lo sd ov (crdZ (homeLo lo sd ov xs) (homeN lo hi sd ov xs) n t)) (wideHi lo hi sd ov (crdZ (homeLo lo sd ov xs) (homeN lo hi sd ov xs) n t)) xs n = true) := fun t ht => home_each HOK.out ht
          have HLs : Hid (∀ t, t + 1 < volC (homeN lo hi sd ov xs) n 0 → cmpS n n (crdZ (homeLo lo sd ov xs) (homeN lo hi sd ov xs) n t) (crdZ (homeLo lo sd ov xs) (homeN lo hi sd ov xs) n (t + 1)) = -1) := fun t ht => crd_less (fun k hk => (home_n HOK.out hk).1) ht
          have HNx : Hid (∀ i, i < n → (lcZ (lo i) (hi i) (sd i) < chZ lo sd xs i + 1 → coreHi lo hi sd (chZ lo sd xs) i = lastZ (hi i)) ∧ (chZ lo sd xs i + 1 ≤ lcZ (lo i) (hi i) (sd i) → lo i + (chZ lo sd xs i + 1) * sd i = coreHi lo hi sd (chZ lo sd xs) i + 1)) := fun i hi9 => ch_next HOK.out hi9
          have hN := home_few HOK.out hn4
          generalize volC (homeN lo hi sd ov xs) n 0 = N at *
          generalize crdZ (homeLo lo sd ov xs) (homeN lo hi sd ov xs) n = F at *
          obtain ⟨hN1, hN2⟩ := hN
          obtain ⟨l0, l1, l2, l3, l4, l5⟩ := KB.out w2 HB02.out
          go_wp2_with fail
          refine (HC1.out _ HB2.out).mono ?_
          rintro e w3 ⟨bc, rfl, hc3, hb3⟩
          have HB3 : Hid (Below w.heap.size w w3) := st HB2.out hb3
          have HB03 : Hid (Below (w.heap.size + 1) W0 w3) := HB02.out.trans (hb3.mono (by rw [← hz0]; exact HB02.out.size))
          have HC3 := Lib.hid hc3
          clear l0 l1 l2 l3 l4 l5 hb3 hc3 HC1
          obtain ⟨l0, l1, l2, l3, l4, l5⟩ := KB.out w3 HB03.out
          go_wp2_with fail
          refine (HC2.out _ HB3.out).mono ?_
          rintro e w4 ⟨bh, ch, rfl, hh4, hb4⟩
          have HB4 : Hid (Below w.heap.size w w4) := st HB3.out hb4
          have HB04 : Hid (Below (w.heap.size + 1) W0 w4) := HB03.out.trans (hb4.mono (by rw [← hz0]; exact HB03.out.size))
          have HC4 : Hid (IntsAt w4 (some ⟨bc, 0, none⟩) n (chZ lo sd xs)) := HC3.out.below hb4
          have HH4 := Lib.hid hh4
          clear l0 l1 l2 l3 l4 l5 hb4 hh4 HC2 HC3
          obtain ⟨l0, l1, l2, l3, l4, l5⟩ := KB.out w4 HB04.out
          go_wp2_with fail
          refine (HCo.out _ _ _ _ HB4.out HC4.out HV.out).mono ?_
          rintro e w5 ⟨b1, b2, rfl, h51, h52, hb5⟩
          have K5 := Lib.hid (box_two w5 (.slice (some ⟨b1, 0, none⟩) n n) (.slice (some ⟨b2, 0, none⟩) n n) 66)
          have HBx5 : Hid (Below w5.heap.size w5 (w5.alloc (.cells #[.slice (some ⟨b1, 0, none⟩) n n, .slice (some ⟨b2, 0, none⟩) n n] 66))) := (Below.refl _ _).alloc (Nat.le_refl _) _
          have hz5 : (w5.alloc (.cells #[.slice (some ⟨b1, 0, none⟩) n n, .slice (some ⟨b2, 0, none⟩) n n] 66)).heap.size = w5.heap.size + 1 := by simp
          have HB5 : Hid (Below w.heap.size w (w5.alloc (.cells #[.slice (some ⟨b1, 0, none⟩) n n, .slice (some ⟨b2, 0, none⟩) n n] 66))) := st (st HB4.out hb5) HBx5.out
          have HB05 : Hid (Below (w.heap.size + 1) W0 (w5.alloc (.cells #[.slice (some ⟨b1, 0, none⟩) n n, .slice (some ⟨b2, 0, none⟩) n n] 66))) := HB04.out.trans ((st hb5 HBx5.out).mono (by rw [← hz0]; exact HB04.out.size))
          have HC5 : Hid (IntsAt (w5.alloc (.cells #[.slice (some ⟨b1, 0, none⟩) n n, .slice (some ⟨b2, 0, none⟩) n n] 66)) (some ⟨bc, 0, none⟩) n (chZ lo sd xs)) := HC4.out.below (st hb5 HBx5.out)
          have HH5 : Hid (ListsAt (w5.alloc (.cells #[.slice (some ⟨b1, 0, none⟩) n n, .slice (some ⟨b2, 0, none⟩) n n] 66)) bh N (fun _ => n) (fun t => F t)) := HH4.out.below (st hb5 HBx5.out)
          have H51 : Hid (IntsAt (w5.alloc (.cells #[.slice (some ⟨b1, 0, none⟩) n n, .slice (some ⟨b2, 0, none⟩) n n] 66)) (some ⟨b1, 0, none⟩) n (coreLo lo sd (chZ lo sd xs))) := h51.below HBx5.out
          have H52 : Hid (IntsAt (w5.alloc (.cells #[.slice (some ⟨b1, 0, none⟩) n n, .slice (some ⟨b2, 0, none⟩) n n] 66)) (some ⟨b2, 0, none⟩) n (coreHi lo hi sd (chZ lo sd xs))) := h52.below HBx5.out
          clear l0 l1 l2 l3 l4 l5 hb5 h51 h52 HH4 HC4
          obtain ⟨l0, l1, l2, l3, l4, l5⟩ := KB.out _ HB05.out
          go_wp2_with fail
          generalize w5.alloc (.cells #[.slice (some ⟨b1, 0, none⟩) n n, .slice (some ⟨b2, 0, none⟩) n n] 66) = v5 at *
          refine (HWi.out _ _ _ _ HB5.out HC5.out HV.out).mono ?_
          rintro e w6 ⟨b3, b4, rfl, h61, h62, hb6⟩
          have K6 := Lib.hid (box_two w6 (.slice (some ⟨b3, 0, none⟩) n n) (.slice (some ⟨b4, 0, none⟩) n n) 66)
          have HBx6 : Hid (Below w6.heap.size w6 (w6.alloc (.cells #[.slice (some ⟨b3, 0, none⟩) n n, .slice (some ⟨b4, 0, none⟩) n n] 66))) := (Below.refl _ _).alloc (Nat.le_refl _) _
          have hv5 : v5.heap.size ≤ w6.heap.size := hb6.size
          have HB56 : Hid (Below v5.heap.size v5 (w6.alloc (.cells #[.slice (some ⟨b3, 0, none⟩) n n, .slice (some ⟨b4, 0, none⟩) n n] 66))) := st hb6 HBx6.out
          have HB6 : Hid (Below w.heap.size w (w6.alloc (.cells #[.slice (some ⟨b3, 0, none⟩) n n, .slice (some ⟨b4, 0, none⟩) n n] 66))) := st HB5.out HB56.out
          have HB06 : Hid (Below (w.heap.size + 1) W0 (w6.alloc (.cells #[.slice (some ⟨b3, 0, none⟩) n n, .slice (some ⟨b4, 0, none⟩) n n] 66))) := HB05.out.trans (HB56.out.mono (by rw [← hz0]; exact HB05.out.size))
          have HC6 : Hid (IntsAt (w6.alloc (.cells #[.slice (some ⟨b3, 0, none⟩) n n, .slice (some ⟨b4, 0, none⟩) n n] 66)) (some ⟨bc, 0, none⟩) n (chZ lo sd xs)) := HC5.out.below HB56.out
          have HH6 : Hid (ListsAt (w6.alloc (.cells #[.slice (some ⟨b3, 0, none⟩) n n, .slice (some ⟨b4, 0, none⟩) n n] 66)) bh N (fun _ => n) (fun t => F t)) := HH5.out.below HB56.out
          have H61 : Hid (IntsAt (w6.alloc (.cells #[.slice (some ⟨b3, 0, none⟩) n n, .slice (some ⟨b4, 0, none⟩) n n] 66)) (some ⟨b1, 0, none⟩) n (coreLo lo sd (chZ lo sd xs))) := H51.out.below HB56.out
          have H62 : Hid (IntsAt (w6.alloc (.cells #[.slice (some ⟨b3, 0, none⟩) n n, .slice (some ⟨b4, 0, none⟩) n n] 66)) (some ⟨b2, 0, none⟩) n (coreHi lo hi sd (chZ lo sd xs))) := H52.out.below HB56.out
          have H63 : Hid (IntsAt (w6.alloc (.cells #[.slice (some ⟨b3, 0, none⟩) n n, .slice (some ⟨b4, 0, none⟩) n n] 66)) (some ⟨b3, 0, none⟩) n (wideLo lo sd ov (chZ lo sd xs))) := h61.below HBx6.out
          have H64 : Hid (IntsAt (w6.alloc (.cells #[.slice (some ⟨b3, 0, none⟩) n n, .slice (some ⟨b4, 0, none⟩) n n] 66)) (some ⟨b4, 0, none⟩) n (wideHi lo hi sd ov (chZ lo sd xs))) := h62.below HBx6.out
          have hz6 : (w6.alloc (.cells #[.slice (some ⟨b3, 0, none⟩) n n, .slice (some ⟨b4, 0, none⟩) n n] 66)).heap.size = w6.heap.size + 1 := by simp
          clear l0 l1 l2 l3 l4 l5 hb6 h61 h62 HH5 HC5 H51 H52 HBx6
          rw [hz5] at K5 HB56
          rw [hz6] at K6
          have HK : Hid (∀ W, Below (w6.alloc (.cells #[.slice (some ⟨b3, 0, none⟩) n n, .slice (some ⟨b4, 0, none⟩) n n] 66)).heap.size (w6.alloc (.cells #[.slice (some ⟨b3, 0, none⟩) n n, .slice (some ⟨b4, 0, none⟩) n n] 66)) W → (W.cell? ⟨w5.heap.size, 0, none⟩ = some (.slice (some ⟨b1, 0, none⟩) n n) ∧ W.cell? ⟨w5.heap.size, 1, none⟩ = some (.slice (some ⟨b2, 0, none⟩) n n)) ∧ (W.cell? ⟨w6.heap.size, 0, none⟩ = some (.slice (some ⟨b3, 0, none⟩) n n) ∧ W.cell? ⟨w6.heap.size, 1, none⟩ = some (.slice (some ⟨b4, 0, none⟩) n n)) ∧ (W.cell? ⟨w.heap.size, 0, none⟩ = some (.slice S n sc) ∧ W.cell? ⟨w.heap.size, 1, none⟩ = some (.slice O n oc) ∧ W.cell? ⟨w.heap.size, 2, none⟩ = some (.int .i64 ord) ∧ W.cell? ⟨w.heap.size, 3, none⟩ = some (.int .i64 tile) ∧ W.cell? ⟨w.heap.size, 4, none⟩ = some (.int .i64 form) ∧ W.cell? ⟨w.heap.size, 5, none⟩ = some (.int .i64 codec)) ∧ Below w.heap.size w W) := fun W hW =>
            ⟨K5.out W (HB56.out.trans (hW.mono (by omega))), K6.out W (hW.mono (by omega)), KB.out W (HB06.out.trans (hW.mono (by have := HB06.out.size; omega))), st HB6.out hW⟩
          clear K5 K6 HB56 KB HB06 HB05 HB04 HB03 HB02 HB5 HB4 HB3 HB2
          obtain ⟨⟨m0, m1⟩, ⟨p0, p1⟩, -, -⟩ := HK.out (w6.alloc (.cells #[.slice (some ⟨b3, 0, none⟩) n n, .slice (some ⟨b4, 0, none⟩) n n] 66)) (Below.refl _ _)
          go_wp2_with fail
          generalize w6.alloc (.cells #[.slice (some ⟨b3, 0, none⟩) n n, .slice (some ⟨b4, 0, none⟩) n n] 66) = v6 at *
          refine (in_true v6 _ _ _ n n n mc _ _ _ H61.out H62.out (HX.out.below HB6.out) (by omega) HI1.out).mono ?_
          rintro e w7 ⟨rfl, hb7⟩
          have HB7 := Lib.hid hb7
          clear m0 m1 p0 p1 hb7
          obtain ⟨⟨m0, m1⟩, ⟨p0, p1⟩, -, -⟩ := HK.out w7 HB7.out
          go_wp2_with fail
          refine (in_true w7 _ _ _ n n n mc _ _ _ (H63.out.below HB7.out) (H64.out.below HB7.out) (HX.out.below (st HB6.out HB7.out)) (by omega) HI2.out).mono ?_
          rintro e w8 ⟨rfl, hb8⟩
          have HB8 : Hid (Below v6.heap.size v6 w8) := st HB7.out hb8
          clear m0 m1 p0 p1 hb8 HB7
          obtain ⟨⟨m0, m1⟩, ⟨p0, p1⟩, -, -⟩ := HK.out w8 HB8.out
          go_wp2_with fail
          refine (in_true w8 _ _ _ n n n n _ _ _ (H63.out.below HB8.out) (H64.out.below HB8.out) (H61.out.below HB8.out) (by omega) HI3.out).mono ?_
          rintro e w9 ⟨rfl, hb9⟩
          have HB9 : Hid (Below v6.heap.size v6 w9) := st HB8.out hb9
          clear m0 m1 p0 p1 hb9 HB8
          obtain ⟨⟨m0, m1⟩, ⟨p0, p1⟩, -, -⟩ := HK.out w9 HB9.out
          go_wp2_with fail
          refine (in_true w9 _ _ _ n n n n _ _ _ (H63.out.below HB9.out) (H64.out.below HB9.out) (H62.out.below HB9.out) (by omega) HI4.out).mono ?_
          rintro e w10 ⟨rfl, hb10⟩
          have HB10 : Hid (Below v6.heap.size v6 w10) := st HB9.out hb10
          clear m0 m1 p0 p1 hb10 HB9
          have HA10 : Hid (Calls Tryz.prog 63 #[.slice bh N ch, .slice (some ⟨bc, 0, none⟩) n n] w10 fun e w' => e = .returned (.bool true) ∧ Below w10.heap.size w10 w') := by
            have h := l_among w10 bh (some ⟨bc, 0, none⟩) N ch n n _ _ _ (HH6.out.below HB10.out) (HC6.out.below HB10.out) (by omega) (by omega)
            rw [HAm.out _ HV.out, HI2.out] at h
            exact h
          go_wp2_with fail
          refine HA10.out.mono ?_
          rintro e w11 ⟨rfl, hb11⟩
          have HB11 : Hid (Below v6.heap.size v6 w11) := st HB10.out hb11
          clear HA10 hb11 HB10
          go_wp2_with fail
          go_loopw [13, 14, 15] (fun i _ _ wr => ∃ t : Nat, t ≤ N ∧ i = .int .i64 t ∧ Hid (Below v6.heap.size v6 wr)) (fun i _ _ _ => N - (intOf i).toNat)
          case atStart => exact ⟨0, Nat.zero_le _, rfl, HB11.out⟩
          case round =>
            obtain ⟨t, ht, rfl, HBr⟩ := hrel
            by_cases hlt : t < N
            · obtain ⟨bl, ol, rfl, hbl, hcl⟩ := (HH6.out.below HBr.out) (by omega)
              obtain ⟨P, cp, x0, hP, -⟩ := hcl t hlt
              have HP := Lib.hid hP
              have HPv : Hid (t = 0 ∨ ∃ u Q cq, t = u + 1 ∧ wr.cell? ⟨bl, ol + u, none⟩ = some (.slice Q n cq) ∧ IntsAt wr Q n (F u)) := by
                by_cases h0 : t = 0
                · exact .inl h0
                · obtain ⟨Q, cq, y0, hQ, -⟩ := hcl (t - 1) (by omega)
                  exact .inr ⟨t - 1, Q, cq, by omega, y0, hQ⟩
              clear hcl hP
              have HKr : Hid (∀ W, Below wr.heap.size wr W → (W.cell? ⟨w.heap.size, 0, none⟩ = some (.slice S n sc) ∧ W.cell? ⟨w.heap.size, 1, none⟩ = some (.slice O n oc) ∧ W.cell? ⟨w.heap.size, 2, none⟩ = some (.int .i64 ord) ∧ W.cell? ⟨w.heap.size, 3, none⟩ = some (.int .i64 tile) ∧ W.cell? ⟨w.heap.size, 4, none⟩ = some (.int .i64 form) ∧ W.cell? ⟨w.heap.size, 5, none⟩ = some (.int .i64 codec)) ∧ W.cell? ⟨bl, ol + t, none⟩ = some (.slice P n cp)) := fun W hW =>
                ⟨(HK.out W (st HBr.out hW)).2.2.1, (hW.cell (p := ⟨bl, ol + t, none⟩) hbl).trans x0⟩
              have HWt : Hid (∀ W, Below wr.heap.size wr W → Calls Tryz.prog 55 #[.slice A n cap, LayV S n sc O n oc ord tile form codec, .slice P n cp] W fun e w' => ∃ b b2, e = .returned (.tuple #[BoxV (some ⟨b, 0, none⟩) (some ⟨b2, 0, none⟩) n n n n, .int .i64 0]) ∧ IntsAt w' (some ⟨b, 0, none⟩) n (wideLo lo sd ov (F t)) ∧ IntsAt w' (some ⟨b2, 0, none⟩) n (wideHi lo hi sd ov (F t)) ∧ Below W.heap.size W w') := fun W hW => HWi.out W P cp (F t) (HK.out W (st HBr.out hW)).2.2.2 (HP.out.below hW) (HEa.out t hlt).1
              go_wp2_with fail
              go_region_held3 (fun W => (W.cell? ⟨w.heap.size, 0, none⟩ = some (.slice S n sc) ∧ W.cell? ⟨w.heap.size, 1, none⟩ = some (.slice O n oc) ∧ W.cell? ⟨w.heap.size, 2, none⟩ = some (.int .i64 ord) ∧ W.cell? ⟨w.heap.size, 3, none⟩ = some (.int .i64 tile) ∧ W.cell? ⟨w.heap.size, 4, none⟩ = some (.int .i64 form) ∧ W.cell? ⟨w.heap.size, 5, none⟩ = some (.int .i64 codec)) ∧ W.cell? ⟨bl, ol + t, none⟩ = some (.slice P n cp))
                (first | exact HKr.out _ (Below.refl _ _) | exact HKr.out _ (Below.drew (Below.refl _ _)) | exact HKr.out _ B1 | exact HKr.out _ ((Below.refl _ _).alloc (Nat.le_refl _) _) | exact HKr.out _ (Below.drew ((Below.refl _ _).alloc (Nat.le_refl _) _)) | exact HKr.out _ (B1.alloc B1.size _) | exact HKr.out _ (((B1.alloc B1.size _).setCell (p := ⟨w7.heap.size, 0, none⟩) B1.size _).setCell (p := ⟨w7.heap.size, 1, none⟩) B1.size _) | exact HKr.out _ ((B1.setCell (p := ⟨wr.heap.size, 0, none⟩) (Nat.le_refl _) _).setCell (p := ⟨wr.heap.size, 1, none⟩) (Nat.le_refl _) _))
                (first
                  | (go_at_call 55; refine (HWt.out _ (Below.drew (Below.refl _ _))).mono ?_; rintro e w7 ⟨c1, c2, rfl, h71, h72, hb7⟩; have B1 : Below wr.heap.size wr w7 := st (Below.drew (Below.refl _ _)) hb7)
                  | (go_at_call 55; refine (HWt.out _ (Below.drew ((Below.refl _ _).alloc (Nat.le_refl _) _))).mono ?_; rintro e w7 ⟨c1, c2, rfl, h71, h72, hb7⟩; have B1 : Below wr.heap.size wr w7 := st (Below.drew ((Below.refl _ _).alloc (Nat.le_refl _) _)) hb7; have hbx : w7.heap[wr.heap.size]? = some (.cells #[.slice none 0 0, .slice none 0 0] 66 (0, 0)) := (hb7.block _ (by simp)).trans (heap_alloc_new wr _); obtain ⟨y0, y1, y2, y3⟩ := box_at hbx))
              all_goals
                first
                | (have hbb : (w7.alloc (.cells #[.slice (some ⟨c1, 0, none⟩) n n, .slice (some ⟨c2, 0, none⟩) n n] 66)).heap[w7.heap.size]? = some (.cells #[.slice (some ⟨c1, 0, none⟩) n n, .slice (some ⟨c2, 0, none⟩) n n] 66 (0, 0)) := heap_alloc_new _ _
                   have B2 : Below wr.heap.size wr (w7.alloc (.cells #[.slice (some ⟨c1, 0, none⟩) n n, .slice (some ⟨c2, 0, none⟩) n n] 66)) := B1.alloc B1.size _
                   have i1 := h71.below (bel9 w7 (.cells #[.slice (some ⟨c1, 0, none⟩) n n, .slice (some ⟨c2, 0, none⟩) n n] 66))
                   have i2 := h72.below (bel9 w7 (.cells #[.slice (some ⟨c1, 0, none⟩) n n, .slice (some ⟨c2, 0, none⟩) n n] 66))
                   change Exit.then _ _ _ _ (w7.alloc (.cells #[.slice (some ⟨c1, 0, none⟩) n n, .slice (some ⟨c2, 0, none⟩) n n] 66))
                   generalize w7.alloc (.cells #[.slice (some ⟨c1, 0, none⟩) n n, .slice (some ⟨c2, 0, none⟩) n n] 66) = W2 at *
                   generalize w7.heap.size = bb at *)
                | (have y9 := (box_at hbx).1
                   have q1 := ints_off h71 h1n y9
                   have q2 := ints_off h72 h1n y9
                   have hbb := put2 hbx (.slice (some ⟨c1, 0, none⟩) n n) (.slice (some ⟨c2, 0, none⟩) n n)
                   have B2 : Below wr.heap.size wr ((w7.setCell ⟨wr.heap.size, 0, none⟩ (.slice (some ⟨c1, 0, none⟩) n n)).setCell ⟨wr.heap.size, 1, none⟩ (.slice (some ⟨c2, 0, none⟩) n n)) := (B1.setCell (p := ⟨wr.heap.size, 0, none⟩) (Nat.le_refl _) _).setCell (p := ⟨wr.heap.size, 1, none⟩) (Nat.le_refl _) _
                   have i1 : IntsAt ((w7.setCell ⟨wr.heap.size, 0, none⟩ (.slice (some ⟨c1, 0, none⟩) n n)).setCell ⟨wr.heap.size, 1, none⟩ (.slice (some ⟨c2, 0, none⟩) n n)) (some ⟨c1, 0, none⟩) n (wideLo lo sd ov (F t)) := ints_set (ints_set h71 q1) q1
                   have i2 : IntsAt ((w7.setCell ⟨wr.heap.size, 0, none⟩ (.slice (some ⟨c1, 0, none⟩) n n)).setCell ⟨wr.heap.size, 1, none⟩ (.slice (some ⟨c2, 0, none⟩) n n)) (some ⟨c2, 0, none⟩) n (wideHi lo hi sd ov (F t)) := ints_set (ints_set h72 q2) q2
                   clear q1 q2 y9 hbx
                   generalize (w7.setCell ⟨wr.heap.size, 0, none⟩ (.slice (some ⟨c1, 0, none⟩) n n)).setCell ⟨wr.heap.size, 1, none⟩ (.slice (some ⟨c2, 0, none⟩) n n) = W2 at *
                   generalize hbbe : wr.heap.size = bb at hbb ⊢
                   clear hbbe)
                have hk2 := HK.out W2 (st HBr.out B2)
                have q0 : W2.cell? ⟨bb, 0, none⟩ = some (.slice (some ⟨c1, 0, none⟩) n n) := by rw [cell_of_row _ _ _ _ _ _ hbb]; rfl
                have q1 : W2.cell? ⟨bb, 1, none⟩ = some (.slice (some ⟨c2, 0, none⟩) n n) := by rw [cell_of_row _ _ _ _ _ _ hbb]; rfl
                have HB2 : Hid (Below v6.heap.size v6 W2) := st HBr.out B2
                have HIn : Hid (∀ W, Below W2.heap.size W2 W → Calls Tryz.prog 62 #[BoxW (some ⟨c1, 0, none⟩) (some ⟨c2, 0, none⟩) n n n n, .slice X n mc] W fun e w' => e = .returned (.bool true) ∧ Below W.heap.size W w') := fun W hW => in_true W _ _ _ n n n mc _ _ _ (i1.below hW) (i2.below hW) (HX.out.below (st hk2.2.2.2 hW)) (by omega) (HEa.out t hlt).2
                have B2d : Below W2.heap.size W2 W2.drew := Below.drew (Below.refl _ _)
                have HbB : Hid (∀ W, Below W2.heap.size W2 W → W.cell? ⟨bb, 0, none⟩ = some (.slice (some ⟨c1, 0, none⟩) n n) ∧ W.cell? ⟨bb, 1, none⟩ = some (.slice (some ⟨c2, 0, none⟩) n n)) := fun W hW => ⟨(hW.cell (p := ⟨bb, 0, none⟩) (cell_lt' q0)).trans q0, (hW.cell (p := ⟨bb, 1, none⟩) (cell_lt' q1)).trans q1⟩
                have x2 : W2.cell? ⟨bl, ol + t, none⟩ = some (.slice P n cp) := (HKr.out W2 B2).2
                rcases HPv.out with h0 | ⟨u, Q, cq, htu, y5, hQ⟩
                · have g1 : decide (0 < t) = false := decide_eq_false (by omega)
                  have g2 : decide ((0 : Int) < (t : Int)) = false := decide_eq_false (by omega)
                  clear h0 HPv hk2 i1 i2 hbb B1 B2 HKr HWt x2
                  go_wp2_with fail
                  refine wp_region_held_drew (S := fun W => W.cell? ⟨bb, 0, none⟩ = some (.slice (some ⟨c1, 0, none⟩) n n) ∧ W.cell? ⟨bb, 1, none⟩ = some (.slice (some ⟨c2, 0, none⟩) n n)) (by kernel_rfl) (HbB.out _ B2d) (fun hHeld => ?_)
                  refine rg_in (v := ?_) 0 rfl (by kernel_rfl) (by kernel_rfl) (by kernel_rfl) (fun _ _ _ h => h) (by rfl) ?_ hHeld ?_
                  rotate_left
                  · intro w hSw; (try dsimp only at hSw); (try simp only [List.getElem_toArray, List.getElem_cons_zero]); go_simp; (try with_reducible rfl)
                  try simp only [Act.put, List.setIfInBounds_toArray, List.set_cons_zero, List.set_cons_succ, List.getElem_toArray, List.getElem_cons_zero]
                  refine rg_in (v := ?_) 1 rfl (by kernel_rfl) (by kernel_rfl) (by kernel_rfl) (fun _ _ _ h => h) (by rfl) ?_ hHeld ?_
                  rotate_left
                  · intro w hSw; (try dsimp only at hSw); (try simp only [List.getElem_toArray, List.getElem_cons_succ, List.getElem_cons_zero]); go_simp; (try with_reducible rfl)
                  try simp only [Act.put, List.setIfInBounds_toArray, List.set_cons_zero, List.set_cons_succ, List.getElem_toArray, List.getElem_cons_succ, List.getElem_cons_zero]
                  refine rg_in (v := ?_) 2 rfl (by kernel_rfl) (by kernel_rfl) (by kernel_rfl) (fun _ _ _ h => h) (by rfl) ?_ hHeld ?_
                  rotate_left
                  · intro w hSw; (try dsimp only at hSw); (try simp only [List.getElem_toArray, List.getElem_cons_succ, List.getElem_cons_zero]); go_simp; (try with_reducible rfl)
                  try simp only [Act.put, List.setIfInBounds_toArray, List.set_cons_zero, List.set_cons_succ, List.getElem_toArray, List.getElem_cons_succ, List.getElem_cons_zero]
                  refine rg_in (v := ?_) 3 rfl (by kernel_rfl) (by kernel_rfl) (by kernel_rfl) (fun _ _ _ h => h) (by rfl) ?_ hHeld ?_
                  rotate_left
                  · intro w hSw; (try dsimp only at hSw); (try simp only [List.getElem_toArray, List.getElem_cons_succ, List.getElem_cons_zero]); go_simp; (try with_reducible rfl)
                  try simp only [Act.put, List.setIfInBounds_toArray, List.set_cons_zero, List.set_cons_succ, List.getElem_toArray, List.getElem_cons_succ, List.getElem_cons_zero]
                  refine rg_in (v := ?_) 4 rfl (by kernel_rfl) (by kernel_rfl) (by kernel_rfl) (fun _ _ _ h => h) (by rfl) ?_ hHeld ?_
                  rotate_left
                  · intro w hSw; (try dsimp only at hSw); (try simp only [List.getElem_toArray, List.getElem_cons_succ, List.getElem_cons_zero]); go_simp; (try with_reducible rfl)
                  try simp only [Act.put, List.setIfInBounds_toArray, List.set_cons_zero, List.set_cons_succ, List.getElem_toArray, List.getElem_cons_succ, List.getElem_cons_zero]
                  refine wpAnyH_ready (rs := [5]) (by kernel_rfl) (by simp) ?_
                  refine AllReadyH.cons rfl (fun K hK => ?_) AllReadyH.nil
                  try simp only [List.getElem_toArray, List.getElem_cons_succ, List.getElem_cons_zero]
                  go_simp
                  go_at_call 62
                  refine (HIn.out _ B2d).mono ?_
                  rintro e w8 ⟨rfl, hb8⟩
                  have B8 : Below W2.heap.size W2 w8 := st B2d hb8
                  go_wp2_with fail
                  refine hK.out _ _ (HbB.out _ B8) (fun hHeld => ?_)
                  clear hK K
                  try simp only [Act.put, List.setIfInBounds_toArray, List.set_cons_zero, List.set_cons_succ, List.getElem_toArray, List.getElem_cons_succ, List.getElem_cons_zero]
                  refine rg_in (v := ?_) 6 rfl (by kernel_rfl) (by kernel_rfl) (by kernel_rfl) (fun _ _ _ h => h) (by rfl) ?_ hHeld ?_
                  rotate_left
                  · intro w hSw; (try dsimp only at hSw); (try simp only [List.getElem_toArray, List.getElem_cons_succ, List.getElem_cons_zero]); go_simp; (try with_reducible rfl)
                  try simp only [Act.put, List.setIfInBounds_toArray, List.set_cons_zero, List.set_cons_succ, List.getElem_toArray, List.getElem_cons_succ, List.getElem_cons_zero]
                  refine rg_in (v := ?_) 7 rfl (by kernel_rfl) (by kernel_rfl) (by kernel_rfl) (fun _ _ _ h => h) (by rfl) ?_ hHeld ?_
                  rotate_left
                  · intro w hSw; (try dsimp only at hSw); (try simp only [List.getElem_toArray, List.getElem_cons_succ, List.getElem_cons_zero]); go_simp; (try with_reducible rfl)
                  try simp only [Act.put, List.setIfInBounds_toArray, List.set_cons_zero, List.set_cons_succ, List.getElem_toArray, List.getElem_cons_succ, List.getElem_cons_zero]
                  refine rg_in (v := ?_) 8 rfl (by kernel_rfl) (by kernel_rfl) (by kernel_rfl) (fun _ _ _ h => h) (by rfl) ?_ hHeld ?_
                  rotate_left
                  · intro w hSw; (try dsimp only at hSw); (try simp only [List.getElem_toArray, List.getElem_cons_succ, List.getElem_cons_zero]); go_simp; (try with_reducible rfl)
                  try simp only [Act.put, List.setIfInBounds_toArray, List.set_cons_zero, List.set_cons_succ, List.getElem_toArray, List.getElem_cons_succ, List.getElem_cons_zero]
                  refine rg_in (v := ?_) 9 rfl (by kernel_rfl) (by kernel_rfl) (by kernel_rfl) (fun _ _ _ h => h) (by rfl) ?_ hHeld ?_
                  rotate_left
                  · intro w hSw; (try dsimp only at hSw); (try simp only [List.getElem_toArray, List.getElem_cons_succ, List.getElem_cons_zero]); go_simp; (try with_reducible rfl)
                  try simp only [Act.put, List.setIfInBounds_toArray, List.set_cons_zero, List.set_cons_succ, List.getElem_toArray, List.getElem_cons_succ, List.getElem_cons_zero]
                  refine rg_in (v := ?_) 10 rfl (by kernel_rfl) (by kernel_rfl) (by kernel_rfl) (fun _ _ _ h => h) (by rfl) ?_ hHeld ?_
                  rotate_left
                  · intro w hSw; (try dsimp only at hSw); (try simp only [List.getElem_toArray, List.getElem_cons_succ, List.getElem_cons_zero]); go_simp; (try with_reducible rfl)
                  try simp only [Act.put, List.setIfInBounds_toArray, List.set_cons_zero, List.set_cons_succ, List.getElem_toArray, List.getElem_cons_succ, List.getElem_cons_zero]
                  refine rg_in (v := ?_) 11 rfl (by kernel_rfl) (by kernel_rfl) (by kernel_rfl) (fun _ _ _ h => h) (by rfl) ?_ hHeld ?_
                  rotate_left
                  · intro w hSw; (try dsimp only at hSw); (try simp only [List.getElem_toArray, List.getElem_cons_succ, List.getElem_cons_zero]); go_simp; (try with_reducible rfl)
                  try simp only [Act.put, List.setIfInBounds_toArray, List.set_cons_zero, List.set_cons_succ, List.getElem_toArray, List.getElem_cons_succ, List.getElem_cons_zero]
                  refine rg_out 12 rfl (by kernel_rfl) (by kernel_rfl) (by kernel_rfl) (fun _ _ _ h => h) (by rfl) hHeld ?_
                  try simp only [Act.put, List.setIfInBounds_toArray, List.set_cons_zero, List.set_cons_succ, List.getElem_toArray, List.getElem_cons_succ, List.getElem_cons_zero]
                  refine rg_out 13 rfl (by kernel_rfl) (by kernel_rfl) (by kernel_rfl) (fun _ _ _ h => h) (by rfl) hHeld ?_
                  try simp only [Act.put, List.setIfInBounds_toArray, List.set_cons_zero, List.set_cons_succ, List.getElem_toArray, List.getElem_cons_succ, List.getElem_cons_zero]
                  refine rg_out 14 rfl (by kernel_rfl) (by kernel_rfl) (by kernel_rfl) (fun _ _ _ h => h) (by rfl) hHeld ?_
                  try simp only [Act.put, List.setIfInBounds_toArray, List.set_cons_zero, List.set_cons_succ, List.getElem_toArray, List.getElem_cons_succ, List.getElem_cons_zero]
                  refine rg_out 15 rfl (by kernel_rfl) (by kernel_rfl) (by kernel_rfl) (fun _ _ _ h => h) (by rfl) hHeld ?_
                  try simp only [Act.put, List.setIfInBounds_toArray, List.set_cons_zero, List.set_cons_succ, List.getElem_toArray, List.getElem_cons_succ, List.getElem_cons_zero]
                  refine rg_out 16 rfl (by kernel_rfl) (by kernel_rfl) (by kernel_rfl) (fun _ _ _ h => h) (by rfl) hHeld ?_
                  try simp only [Act.put, List.setIfInBounds_toArray, List.set_cons_zero, List.set_cons_succ, List.getElem_toArray, List.getElem_cons_succ, List.getElem_cons_zero]
                  refine rg_out 17 rfl (by kernel_rfl) (by kernel_rfl) (by kernel_rfl) (fun _ _ _ h => h) (by rfl) hHeld ?_
                  try simp only [Act.put, List.setIfInBounds_toArray, List.set_cons_zero, List.set_cons_succ, List.getElem_toArray, List.getElem_cons_succ, List.getElem_cons_zero]
                  refine rg_out 18 rfl (by kernel_rfl) (by kernel_rfl) (by kernel_rfl) (fun _ _ _ h => h) (by rfl) hHeld ?_
                  try simp only [Act.put, List.setIfInBounds_toArray, List.set_cons_zero, List.set_cons_succ, List.getElem_toArray, List.getElem_cons_succ, List.getElem_cons_zero]
                  refine rg_out 19 rfl (by kernel_rfl) (by kernel_rfl) (by kernel_rfl) (fun _ _ _ h => h) (by rfl) hHeld ?_
                  try simp only [Act.put, List.setIfInBounds_toArray, List.set_cons_zero, List.set_cons_succ, List.getElem_toArray, List.getElem_cons_succ, List.getElem_cons_zero]
                  refine rg_out 20 rfl (by kernel_rfl) (by kernel_rfl) (by kernel_rfl) (fun _ _ _ h => h) (by rfl) hHeld ?_
                  try simp only [Act.put, List.setIfInBounds_toArray, List.set_cons_zero, List.set_cons_succ, List.getElem_toArray, List.getElem_cons_succ, List.getElem_cons_zero]
                  first
                  | (refine rg_out 21 rfl (by kernel_rfl) (by kernel_rfl) (by kernel_rfl) (fun _ _ _ h => h) (by rfl) hHeld ?_
                     simp only [Act.put, List.setIfInBounds_toArray, List.set_cons_zero, List.set_cons_succ, List.getElem_toArray, List.getElem_cons_succ, List.getElem_cons_zero])
                  | (refine wpAnyH_ready (rs := [21]) (by kernel_rfl) (by simp) ?_
                     refine AllReadyH.cons rfl (fun K hK => ?_) AllReadyH.nil
                     rw [if_neg (fun h => Bool.noConfusion h)]
                     refine hK.out _ _ hHeld (fun hHeld => ?_)
                     clear hK K
                     simp only [Act.put, List.setIfInBounds_toArray, List.set_cons_zero, List.set_cons_succ, List.getElem_toArray, List.getElem_cons_succ, List.getElem_cons_zero])
                  refine rg_out 22 rfl (by kernel_rfl) (by kernel_rfl) (by kernel_rfl) (fun _ _ _ h => h) (by rfl) hHeld ?_
                  try simp only [Act.put, List.setIfInBounds_toArray, List.set_cons_zero, List.set_cons_succ, List.getElem_toArray, List.getElem_cons_succ, List.getElem_cons_zero]
                  refine rg_in (v := ?_) 23 rfl (by kernel_rfl) (by kernel_rfl) (by kernel_rfl) (fun _ _ _ h => h) (by rfl) ?_ hHeld ?_
                  rotate_left
                  · intro w hSw; (try dsimp only at hSw); (try simp only [List.getElem_toArray, List.getElem_cons_succ, List.getElem_cons_zero]); go_simp; (try with_reducible rfl)
                  try simp only [Act.put, List.setIfInBounds_toArray, List.set_cons_zero, List.set_cons_succ, List.getElem_toArray, List.getElem_cons_succ, List.getElem_cons_zero]
                  refine rg_in (v := ?_) 24 rfl (by kernel_rfl) (by kernel_rfl) (by kernel_rfl) (fun _ _ _ h => h) (by rfl) ?_ hHeld ?_
                  rotate_left
                  · intro w hSw; (try dsimp only at hSw); (try simp only [List.getElem_toArray, List.getElem_cons_succ, List.getElem_cons_zero]); go_simp; (try with_reducible rfl)
                  try simp only [Act.put, List.setIfInBounds_toArray, List.set_cons_zero, List.set_cons_succ, List.getElem_toArray, List.getElem_cons_succ, List.getElem_cons_zero]
                  refine wpAnyH_done (by kernel_rfl) ?_ _
                  go_wp2
                  go_roundw
                  case rel => exact ⟨t + 1, by omega, by go_num, st HB2.out B8⟩
                  case measure => simp [intOf]; omega
                · have y6 : W2.cell? ⟨bl, ol + u, none⟩ = some (.slice Q n cq) := (B2.cell (p := ⟨bl, ol + u, none⟩) hbl).trans y5
                  have HCmp : Hid (∀ W, Below W2.heap.size W2 W → Calls Tryz.prog 27 #[.slice Q n cq, .slice P n cp] W fun e w' => e = .returned (.int .i64 (-1)) ∧ w' = W) := fun W hW => by
                    have h := s_Compare W Q P n cq n cp _ _ (hQ.below (st B2 hW)) (HP.out.below (st B2 hW)) (by omega) (by omega)
                    have h9 := HLs.out u (by omega)
                    rw [← htu] at h9
                    rw [h9] at h
                    exact h
                  have HbL : Hid (∀ W, Below W2.heap.size W2 W → (W.cell? ⟨bb, 0, none⟩ = some (.slice (some ⟨c1, 0, none⟩) n n) ∧ W.cell? ⟨bb, 1, none⟩ = some (.slice (some ⟨c2, 0, none⟩) n n)) ∧ W.cell? ⟨bl, ol + t, none⟩ = some (.slice P n cp) ∧ W.cell? ⟨bl, ol + u, none⟩ = some (.slice Q n cq)) := fun W hW => ⟨HbB.out W hW, (hW.cell (p := ⟨bl, ol + t, none⟩) (cell_lt' x2)).trans x2, (hW.cell (p := ⟨bl, ol + u, none⟩) (cell_lt' y6)).trans y6⟩
                  have g0 : 0 < t := by omega
                  have g1 : decide (0 < t) = true := decide_eq_true g0
                  have g2 : decide ((0 : Int) < (t : Int)) = true := decide_eq_true (by omega)
                  have hwt : IntKind.i64.wrap ((t : Int) - 1) = (u : Int) := by rw [w64 (by omega) (by omega)]; omega
                  have huN : u < N := by omega
                  have HTU := Lib.hid htu
                  clear htu HPv hk2 i1 i2 hbb B1 B2 HKr HWt y5 hQ
                  go_wp2_with fail
                  go_region_held3 (fun W => (W.cell? ⟨bb, 0, none⟩ = some (.slice (some ⟨c1, 0, none⟩) n n) ∧ W.cell? ⟨bb, 1, none⟩ = some (.slice (some ⟨c2, 0, none⟩) n n)) ∧ W.cell? ⟨bl, ol + t, none⟩ = some (.slice P n cp) ∧ W.cell? ⟨bl, ol + u, none⟩ = some (.slice Q n cq))
                    (first | exact HbL.out _ (Below.refl _ _) | exact HbL.out _ B2d | exact HbL.out _ B8)
                    (first
                      | (go_at_call 62; refine (HIn.out _ B2d).mono ?_; rintro e w8 ⟨rfl, hb8⟩; have B8 : Below W2.heap.size W2 w8 := st B2d hb8)
                      | (go_at_call 27; refine (HCmp.out _ B8).mono ?_; rintro e w9 ⟨rfl, rfl⟩))
                  all_goals
                    go_wp2
                    go_roundw
                    case rel => exact ⟨t + 1, by omega, by go_num, st HB2.out B8⟩
                    case measure => simp [intOf]; omega
            · have hN9 : N = t := by omega
              subst hN9
              clear HEa HLs
              go_wp2_with fail
              go_loopw [16, 17, 18, 19, 20, 21] (fun i _ _ _ _ _ wr => ∃ i' : Nat, i' ≤ n ∧ i = .int .i64 i' ∧ Hid (Below v6.heap.size v6 wr)) (fun i _ _ _ _ _ _ => n - (intOf i).toNat)
              case atStart => exact ⟨0, Nat.zero_le _, rfl, HBr.out⟩
              case round =>
                clear HBr
                obtain ⟨i, hi9, rfl, HBr⟩ := hrel
                by_cases hlt2 : i < n
                · have hcc : ∀ j, j < n → wr.cell? ⟨bc, 0 + j, none⟩ = some (.int .i64 (chZ lo sd xs j)) := by
                    obtain ⟨b0, o0, e1, _, hcc⟩ := (HC6.out.below HBr.out) (by omega)
                    injection e1 with e1
                    injection e1 with e1 e2
                    subst e1 e2
                    exact hcc
                  have HCC := Lib.hid hcc
                  clear hcc
                  have HVi := Lib.hid (HV.out i hlt2)
                  have HNi := Lib.hid (HNx.out i hlt2)
                  have hoki := HOK.out i hlt2
                  obtain ⟨ci, hci⟩ : ∃ ci, chZ lo sd xs i = ci := ⟨_, rfl⟩
                  have HCI := Lib.hid hci
                  rw [hci] at HVi HNi
                  have hLC : lcZ (lo i) (hi i) (sd i) ≤ 4294967296 := by
                    have := home_at HOK.out hlt2
                    unfold lcZ
                    exact Int.le_trans (Int.ediv_le_self _ (by omega)) (by omega)
                  have hci0 := HVi.out.1
                  have hci1 := HVi.out.2
                  clear hci
                  have hwc : IntKind.i64.wrap (ci + 1) = ci + 1 := by rw [w64 (by omega) (by omega)]
                  go_wp2_with (at_builtin; refine wpList_clone rfl _ _ rfl wr bc 0 n n (chZ lo sd xs) (by omega) (by omega) HCC.out rfl rfl ?_; intro D dc g w7 hD hrow hcap hg hb7; have y0 := hrow.cell (i := i) (by omega); rw [hg i hlt2, HCI.out] at y0; have z0 := hrow.frozen i; have HB8 : Hid (Below v6.heap.size v6 (w7.setCell ⟨D, i, none⟩ (.int .i64 (ci + 1)))) := (st HBr.out hb7).setCell (by show v6.heap.size ≤ D; have := HBr.out.size; omega) _; have HI8 := Lib.hid (ints_upd (i := i) hrow hcap hg (ci + 1)); have hk8 := HK.out _ HB8.out; obtain ⟨-, -, ⟨l0, l1, l2, l3, l4, l5⟩, -⟩ := hk8)
                  generalize w7.setCell ⟨D, i, none⟩ (.int .i64 (ci + 1)) = w8 at *
                  clear l0 l1 l2 l3 l4 l5 y0 z0 hrow hcap hg
                  obtain ⟨v, hv⟩ : ∃ v, updZ (chZ lo sd xs) i (ci + 1) = v := ⟨_, rfl⟩
                  have hvi : v i = ci + 1 := by rw [← hv, updZ, if_pos rfl]
                  have hvo : ∀ k, k ≠ i → v k = chZ lo sd xs k := fun k hk => by rw [← hv, updZ, if_neg hk]
                  rw [hv] at HI8
                  clear hv
                  have hB8 := (HK.out _ HB8.out).2.2.2
                  have hHc1 : coreHi lo hi sd (chZ lo sd xs) i ≤ 1073741824 := by
                    have h9 := lastZ_le (hi i)
                    unfold coreHi
                    omega
                  have hHc0 : -1073741824 ≤ coreHi lo hi sd (chZ lo sd xs) i := by
                    have h9 := (ch_at HOK.out hlt2).2.1.2
                    omega
                  have HCH : Hid (∀ W, Below v6.heap.size v6 W → W.cell? ⟨b2, i, none⟩ = some (.int .i64 (coreHi lo hi sd (chZ lo sd xs) i))) := fun W hW => by
                    obtain ⟨b9, o9, e1, _, h9⟩ := (H62.out.below hW) (by omega)
                    injection e1 with e1
                    injection e1 with e1 e2
                    subst e1 e2
                    have := h9 i hlt2
                    rwa [Nat.zero_add] at this
                  by_cases hval : ci + 1 ≤ lcZ (lo i) (hi i) (sd i)
                  · have HVv : Hid (∀ k, k < n → 0 ≤ v k ∧ v k ≤ lcZ (lo k) (hi k) (sd k)) := fun k hk => by
                      by_cases e : k = i
                      · subst e; rw [hvi]; exact ⟨by omega, hval⟩
                      · rw [hvo k e]; exact HV.out k hk
                    have HXL : Hid (coreLo lo sd v i = coreHi lo hi sd (chZ lo sd xs) i + 1) := by
                      show _ = _
                      rw [coreLo, hvi]
                      exact HNi.out.2 hval
                    refine (HCo.out _ _ dc v hB8 HI8.out HVv.out).mono ?_
                    rintro e w9 ⟨d1, d2, rfl, h91, h92, hb9⟩
                    have hb9' : Below w8.heap.size w8 (w9.alloc (.cells #[.slice (some ⟨d1, 0, none⟩) n n, .slice (some ⟨d2, 0, none⟩) n n] 66)) := st hb9 (bel9 w9 _)
                    have HB9 : Hid (Below v6.heap.size v6 (w9.alloc (.cells #[.slice (some ⟨d1, 0, none⟩) n n, .slice (some ⟨d2, 0, none⟩) n n] 66))) := st HB8.out hb9'
                    obtain ⟨n0, n1⟩ := box_two w9 (.slice (some ⟨d1, 0, none⟩) n n) (.slice (some ⟨d2, 0, none⟩) n n) 66 _ (Below.refl _ _)
                    obtain ⟨⟨m0, m1⟩, -, -, -⟩ := HK.out (w9.alloc (.cells #[.slice (some ⟨d1, 0, none⟩) n n, .slice (some ⟨d2, 0, none⟩) n n] 66)) HB9.out
                    have k1 : (w9.alloc (.cells #[.slice (some ⟨d1, 0, none⟩) n n, .slice (some ⟨d2, 0, none⟩) n n] 66)).cell? ⟨d1, i, none⟩ = some (.int .i64 (coreHi lo hi sd (chZ lo sd xs) i + 1)) := by
                      obtain ⟨b9, o9, e1, _, h9⟩ := (h91.below (bel9 w9 (.cells #[.slice (some ⟨d1, 0, none⟩) n n, .slice (some ⟨d2, 0, none⟩) n n] 66))) (by omega)
                      injection e1 with e1
                      injection e1 with e1 e2
                      subst e1 e2
                      have := h9 i hlt2
                      rwa [Nat.zero_add, HXL.out] at this
                    have k2 := HCH.out _ HB9.out
                    have hwH : IntKind.i64.wrap (coreHi lo hi sd (chZ lo sd xs) i + 1) = coreHi lo hi sd (chZ lo sd xs) i + 1 := by rw [w64 (by omega) (by omega)]
                    have HI9 : Hid (IntsAt (w9.alloc (.cells #[.slice (some ⟨d1, 0, none⟩) n n, .slice (some ⟨d2, 0, none⟩) n n] 66)) (some ⟨D, 0, none⟩) n v) := HI8.out.below hb9'
                    clear hb9 hb9' h91 h92
                    go_wp2_with fail
                    go_quiet (fail)
                    have HBq : Hid (Below v6.heap.size v6 ((w9.alloc (.cells #[.slice (some ⟨d1, 0, none⟩) n n, .slice (some ⟨d2, 0, none⟩) n n] 66)).drewN nq)) := drewB HB9.out _
                    have HIq : Hid (IntsAt ((w9.alloc (.cells #[.slice (some ⟨d1, 0, none⟩) n n, .slice (some ⟨d2, 0, none⟩) n n] 66)).drewN nq) (some ⟨D, 0, none⟩) n v) := HI9.out
                    clear n0 n1 m0 m1 k1 k2 hwH HB9 HI9
                    generalize (w9.alloc (.cells #[.slice (some ⟨d1, 0, none⟩) n n, .slice (some ⟨d2, 0, none⟩) n n] 66)).drewN nq = w10 at *
                    obtain ⟨-, -, ⟨l0, l1, l2, l3, l4, l5⟩, hB10⟩ := HK.out w10 HBq.out
                    go_wp2_with fail
                    refine (HWi.out _ _ dc v hB10 HIq.out HVv.out).mono ?_
                    rintro e w11 ⟨d3, d4, rfl, h111, h112, hb11⟩
                    have hb11' : Below w10.heap.size w10 (w11.alloc (.cells #[.slice (some ⟨d3, 0, none⟩) n n, .slice (some ⟨d4, 0, none⟩) n n] 66)) := st hb11 (bel9 w11 _)
                    have HB11' : Hid (Below v6.heap.size v6 (w11.alloc (.cells #[.slice (some ⟨d3, 0, none⟩) n n, .slice (some ⟨d4, 0, none⟩) n n] 66))) := st HBq.out hb11'
                    obtain ⟨n0, n1⟩ := box_two w11 (.slice (some ⟨d3, 0, none⟩) n n) (.slice (some ⟨d4, 0, none⟩) n n) 66 _ (Below.refl _ _)
                    have H111 : Hid (IntsAt (w11.alloc (.cells #[.slice (some ⟨d3, 0, none⟩) n n, .slice (some ⟨d4, 0, none⟩) n n] 66)) (some ⟨d3, 0, none⟩) n (wideLo lo sd ov v)) := h111.below (bel9 w11 _)
                    have H112 : Hid (IntsAt (w11.alloc (.cells #[.slice (some ⟨d3, 0, none⟩) n n, .slice (some ⟨d4, 0, none⟩) n n] 66)) (some ⟨d4, 0, none⟩) n (wideHi lo hi sd ov v)) := h112.below (bel9 w11 _)
                    have HI11 : Hid (IntsAt (w11.alloc (.cells #[.slice (some ⟨d3, 0, none⟩) n n, .slice (some ⟨d4, 0, none⟩) n n] 66)) (some ⟨D, 0, none⟩) n v) := HIq.out.below hb11'
                    have hB11 := (HK.out _ HB11'.out).2.2.2
                    have HIs : Hid (Calls Tryz.prog 62 #[BoxW (some ⟨d3, 0, none⟩) (some ⟨d4, 0, none⟩) n n n n, .slice X n mc] (w11.alloc (.cells #[.slice (some ⟨d3, 0, none⟩) n n, .slice (some ⟨d4, 0, none⟩) n n] 66)) fun e w' => e = .returned (.bool (insTo (wideLo lo sd ov v) (wideHi lo hi sd ov v) xs n)) ∧ Below (w11.alloc (.cells #[.slice (some ⟨d3, 0, none⟩) n n, .slice (some ⟨d4, 0, none⟩) n n] 66)).heap.size (w11.alloc (.cells #[.slice (some ⟨d3, 0, none⟩) n n, .slice (some ⟨d4, 0, none⟩) n n] 66)) w') := l_inside _ _ _ _ n n n mc _ _ _ H111.out H112.out (HX.out.below hB11) (by omega)
                    have HAg : Hid (∀ W, Below (w11.alloc (.cells #[.slice (some ⟨d3, 0, none⟩) n n, .slice (some ⟨d4, 0, none⟩) n n] 66)).heap.size (w11.alloc (.cells #[.slice (some ⟨d3, 0, none⟩) n n, .slice (some ⟨d4, 0, none⟩) n n] 66)) W → Calls Tryz.prog 63 #[.slice bh N ch, .slice (some ⟨D, 0, none⟩) n dc] W fun e w' => e = .returned (.bool (insTo (wideLo lo sd ov v) (wideHi lo hi sd ov v) xs n)) ∧ Below W.heap.size W w') := fun W hW => by
                      have h := l_among W bh (some ⟨D, 0, none⟩) N ch n dc _ _ v (HH6.out.below (st HB11'.out hW)) (HI11.out.below hW) (by omega) (by omega)
                      rw [HAm.out _ HVv.out] at h
                      exact h
                    generalize insTo (wideLo lo sd ov v) (wideHi lo hi sd ov v) xs n = bv at *
                    clear l0 l1 l2 l3 l4 l5 hb11 hb11' h111 h112 H111 H112 HI11 hvi hvo
                    go_wp2_with fail
                    refine HIs.out.mono ?_
                    rintro e w12 ⟨rfl, hb12⟩
                    have HB12 : Hid (Below v6.heap.size v6 w12) := st HB11'.out hb12
                    have HAg2 := Lib.hid (HAg.out w12 hb12)
                    clear hb12 HIs HAg n0 n1
                    go_wp2_with fail
                    refine HAg2.out.mono ?_
                    rintro e w13 ⟨rfl, hb13⟩
                    have HB13 : Hid (Below v6.heap.size v6 w13) := st HB12.out hb13
                    clear hb13 HAg2 HB12 HB11' hB11
                    have e9 : (bv != bv) = false := by simp
                    have hkz := HK.out w13 HB13.out
                    obtain ⟨⟨m0, m1⟩, -, -, hBz⟩ := hkz
                    have k1 : w13.cell? ⟨bc, i, none⟩ = some (.int .i64 ci) := by
                      obtain ⟨b9, o9, e1, _, h9⟩ := (HC6.out.below HB13.out) (by omega)
                      injection e1 with e1
                      injection e1 with e1 e2
                      subst e1 e2
                      have := h9 i hlt2
                      rwa [Nat.zero_add, HCI.out] at this
                    have k2 : w13.cell? ⟨b1, i, none⟩ = some (.int .i64 (coreLo lo sd (chZ lo sd xs) i)) := by
                      obtain ⟨b9, o9, e1, _, h9⟩ := (H61.out.below HB13.out) (by omega)
                      injection e1 with e1
                      injection e1 with e1 e2
                      subst e1 e2
                      have := h9 i hlt2
                      rwa [Nat.zero_add] at this
                    obtain ⟨bd, od, hAe, _, hdc⟩ := (HD.out.below hBz) (by omega)
                    have hd1 := (hdc i hlt2).2.1
                    subst hAe
                    have HCL : Hid (ci = 0 → coreLo lo sd (chZ lo sd xs) i = lo i) := fun h => by rw [coreLo, HCI.out, h, Int.zero_mul, Int.add_zero]
                    clear hdc
                    by_cases hz : ci = 0
                    · have e0 : (ci == 0) = true := by rw [hz]; rfl
                      rw [HCL.out hz] at k2
                      generalize lo i = li at *
                      go_wp2
                      go_quiet (fail)
                      go_wp2
                      go_roundw
                      case rel => exact ⟨i + 1, by omega, by go_num, drewB HB13.out _⟩
                      case measure => simp [intOf]; omega
                    · have e0 : (ci == 0) = false := by rw [beq_eq_false_iff_ne]; exact hz
                      go_wp2
                      go_quiet (fail)
                      go_wp2
                      go_roundw
                      case rel => exact ⟨i + 1, by omega, by go_num, drewB HB13.out _⟩
                      case measure => simp [intOf]; omega
                  · have hcf : cinTo lo hi sd v n = false := cinTo_le (k := i + 1) (by rw [cinTo, hvi, decide_eq_false (by omega), Bool.and_false]) (by omega)
                    have HFH : Hid (coreHi lo hi sd (chZ lo sd xs) i = lastZ (hi i)) := HNi.out.1 (by omega)
                    refine (HCf.out _ _ dc v hB8 HI8.out hcf).mono ?_
                    rintro e w9 ⟨rfl, hb9⟩
                    have hb9' : Below w8.heap.size w8 (w9.alloc (.cells #[.slice none 0 0, .slice none 0 0] 66)) := st hb9 (bel9 w9 _)
                    have HB9 : Hid (Below v6.heap.size v6 (w9.alloc (.cells #[.slice none 0 0, .slice none 0 0] 66))) := st HB8.out hb9'
                    obtain ⟨⟨m0, m1⟩, -, -, hB9⟩ := HK.out (w9.alloc (.cells #[.slice none 0 0, .slice none 0 0] 66)) HB9.out
                    have k2 := HCH.out _ HB9.out
                    rw [HFH.out] at k2
                    have HI9 : Hid (IntsAt (w9.alloc (.cells #[.slice none 0 0, .slice none 0 0] 66)) (some ⟨D, 0, none⟩) n v) := HI8.out.below hb9'
                    obtain ⟨bd, od, hAe, _, hdc⟩ := (HD.out.below hB9) (by omega)
                    have hd1 := (hdc i hlt2).2.2
                    subst hAe
                    have HM : Hid (lastZ (hi i) = min (hi i) 1073741824) := by show _ = _; unfold lastZ; split <;> omega
                    rw [HM.out] at k2
                    clear hdc hb9 hb9'
                    go_wp2_with fail
                    go_quiet (fail)
                    have HBq : Hid (Below v6.heap.size v6 ((w9.alloc (.cells #[.slice none 0 0, .slice none 0 0] 66)).drewN nq)) := drewB HB9.out _
                    have HIq : Hid (IntsAt ((w9.alloc (.cells #[.slice none 0 0, .slice none 0 0] 66)).drewN nq) (some ⟨D, 0, none⟩) n v) := HI9.out
                    clear m0 m1 k2 hd1 HB9 HI9 hB9
                    generalize (w9.alloc (.cells #[.slice none 0 0, .slice none 0 0] 66)).drewN nq = w10 at *
                    obtain ⟨-, -, ⟨l0, l1, l2, l3, l4, l5⟩, hB10⟩ := HK.out w10 HBq.out
                    go_wp2_with fail
                    refine (HWf.out _ _ dc v hB10 HIq.out hcf).mono ?_
                    rintro e w11 ⟨rfl, hb11⟩
                    have HB13 : Hid (Below v6.heap.size v6 (w11.alloc (.cells #[.slice none 0 0, .slice none 0 0] 66))) := st HBq.out (st hb11 (bel9 w11 _))
                    clear l0 l1 l2 l3 l4 l5 hb11 hvi hvo
                    have hkz := HK.out (w11.alloc (.cells #[.slice none 0 0, .slice none 0 0] 66)) HB13.out
                    obtain ⟨⟨m0, m1⟩, -, -, hBz⟩ := hkz
                    have k1 : (w11.alloc (.cells #[.slice none 0 0, .slice none 0 0] 66)).cell? ⟨bc, i, none⟩ = some (.int .i64 ci) := by
                      obtain ⟨b9, o9, e1, _, h9⟩ := (HC6.out.below HB13.out) (by omega)
                      injection e1 with e1
                      injection e1 with e1 e2
                      subst e1 e2
                      have := h9 i hlt2
                      rwa [Nat.zero_add, HCI.out] at this
                    have k2 : (w11.alloc (.cells #[.slice none 0 0, .slice none 0 0] 66)).cell? ⟨b1, i, none⟩ = some (.int .i64 (coreLo lo sd (chZ lo sd xs) i)) := by
                      obtain ⟨b9, o9, e1, _, h9⟩ := (H61.out.below HB13.out) (by omega)
                      injection e1 with e1
                      injection e1 with e1 e2
                      subst e1 e2
                      have := h9 i hlt2
                      rwa [Nat.zero_add] at this
                    obtain ⟨bd, od, hAe, _, hdc⟩ := (HD.out.below hBz) (by omega)
                    have hd1 := (hdc i hlt2).2.1
                    injection hAe with hAe
                    injection hAe with hAe1 hAe2
                    subst hAe1 hAe2
                    have HCL : Hid (ci = 0 → coreLo lo sd (chZ lo sd xs) i = lo i) := fun h => by rw [coreLo, HCI.out, h, Int.zero_mul, Int.add_zero]
                    clear hdc
                    by_cases hz : ci = 0
                    · have e0 : (ci == 0) = true := by rw [hz]; rfl
                      rw [HCL.out hz] at k2
                      generalize lo i = li at *
                      go_wp2
                      go_quiet (fail)
                      go_wp2
                      go_roundw
                      case rel => exact ⟨i + 1, by omega, by go_num, drewB HB13.out _⟩
                      case measure => simp [intOf]; omega
                    · have e0 : (ci == 0) = false := by rw [beq_eq_false_iff_ne]; exact hz
                      go_wp2
                      go_quiet (fail)
                      go_wp2
                      go_roundw
                      case rel => exact ⟨i + 1, by omega, by go_num, drewB HB13.out _⟩
                      case measure => simp [intOf]; omega
                · obtain rfl : i = n := by omega
                  have hk := HK.out wr HBr.out
                  go_wp2_with fail
                  refine (HW.out _ hk.2.2.2).mono ?_
                  rintro e w9 ⟨rfl, hb9⟩
                  go_wp2
                  go_ret
                  exact ⟨rfl, st hk.2.2.2 hb9⟩
        · have HC1 : Hid (∀ W, Below w.heap.size w W → Calls Tryz.prog 47 #[.slice A n cap, LayV S s sc O o oc ord tile form codec, .slice X m mc] W fun e w' => e = .returned (.tuple #[.slice none 0 0, .int .i64 (atE nm lo hi n sd ov s o ord tile form codec xs m)]) ∧ Below W.heap.size W w') := fun W hW => s_Chunk_bad W A S O X n cap s sc o oc m mc nm lo hi sd ov xs ord tile form codec (HD.out.below hW) (HSd.out.below hW) (HO.out.below hW) (HX.out.below hW) (by omega) (by omega) (by omega) (by omega) he
          have HC2 : Hid (∀ W, Below w.heap.size w W → Calls Tryz.prog 49 #[.slice A n cap, LayV S s sc O o oc ord tile form codec, .slice X m mc] W fun e w' => e = .returned (.tuple #[.slice none 0 0, .int .i64 (atE nm lo hi n sd ov s o ord tile form codec xs m)]) ∧ Below W.heap.size W w') := fun W hW => s_Homes_bad W A S O X n cap s sc o oc m mc nm lo hi sd ov xs ord tile form codec (HD.out.below hW) (HSd.out.below hW) (HO.out.below hW) (HX.out.below hW) (by omega) (by omega) (by omega) (by omega) he
          obtain ⟨E, hE⟩ : ∃ E, atE nm lo hi n sd ov s o ord tile form codec xs m = E := ⟨_, rfl⟩
          rw [hE] at HC1 HC2 he
          have he2 : (E != 0) = true := by rw [bne_iff_ne]; exact he
          clear hE he
          obtain ⟨l0, l1, l2, l3, l4, l5⟩ := KB.out w2 HB02.out
          go_wp2_with fail
          refine (HC1.out _ HB2.out).mono ?_
          rintro e w3 ⟨rfl, hb3⟩
          have HB3 : Hid (Below w.heap.size w w3) := st HB2.out hb3
          have HB03 : Hid (Below (w.heap.size + 1) W0 w3) := HB02.out.trans (hb3.mono (by rw [← hz0]; exact HB02.out.size))
          clear l0 l1 l2 l3 l4 l5 hb3
          obtain ⟨l0, l1, l2, l3, l4, l5⟩ := KB.out w3 HB03.out
          go_wp2_with fail
          refine (HC2.out _ HB3.out).mono ?_
          rintro e w4 ⟨rfl, hb4⟩
          have HB4 : Hid (Below w.heap.size w w4) := st HB3.out hb4
          clear l0 l1 l2 l3 l4 l5 hb4
          go_wp2_with fail
          refine (HW.out _ HB4.out).mono ?_
          rintro e w5 ⟨rfl, hb5⟩
          go_wp2
          go_ret
          exact ⟨rfl, st HB4.out hb5⟩
end Go.Proofs.YtoippldgoehpcaaGreatDoor
