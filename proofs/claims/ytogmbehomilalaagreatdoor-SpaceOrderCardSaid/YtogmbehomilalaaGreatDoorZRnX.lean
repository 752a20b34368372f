/- The reference's Rank. -/
import Derived.Test.YtogmbehomilalaaGreatDoorZSqY
import Derived.Test.YtogmbehomilalaaGreatDoorZRfC
namespace Go.Proofs.YtogmbehomilalaaGreatDoor
open Go Go.RowKit Go.Deep

theorem cmpTo_all {f g : Nat → Int} {m : Nat} : ∀ k, k ≤ m → (cmpTo f g m k = 0 ↔ ∀ j, j < k → f j = g j)
  | 0, _ => ⟨fun _ j hj => absurd hj (by omega), fun _ => rfl⟩
  | k + 1, hk => by
    have ih := cmpTo_all (f := f) (g := g) (m := m) k (by omega)
    rw [cmpTo]
    by_cases h : cmpTo f g m k = 0
    · rw [if_pos h, if_neg (by omega), cmp_num.2.1]
      constructor
      · intro h2 j hj
        by_cases e : j = k
        · rw [e]; exact h2
        · exact ih.1 h j (by omega)
      · exact fun h2 => h2 k (by omega)
    · rw [if_neg h]
      exact ⟨fun h2 => absurd h2 h, fun h2 => absurd (ih.2 fun j hj => h2 j (by omega)) h⟩
theorem cmpS_zero {f g : Nat → Int} {n : Nat} : cmpS n n f g = 0 ↔ ∀ j, j < n → f j = g j := by
  have h := cmpTo_all (f := f) (g := g) (m := n) n (Nat.le_refl _)
  unfold cmpS
  by_cases e : cmpTo f g n n = 0
  · rw [if_pos e, if_neg (Nat.lt_irrefl n)]
    exact ⟨fun _ => h.1 e, fun _ => rfl⟩
  · rw [if_neg e]
    exact h
/-- What Rank returns. -/
def RankX (ord tile : Int) (n : Nat) (lo hi : Nat → Int) (e : Nat → Nat) (xs : Nat → Int) (r : Ending) : Prop :=
  ∃ L : List Nat, L.Perm (List.range (volC e n 0)) ∧ InOrdY (seqT ord tile n (wdTo lo hi n) lo e) L ∧
    ((∃ i, i < volC e n 0 ∧ (∀ k, k < n → crdZ lo e n (L[i]!) k = xs k) ∧ r = .returned (.tuple #[.int .i64 (i : Nat), .int .i64 0])) ∨ (∀ i, i < volC e n 0 → ¬ ∀ k, k < n → crdZ lo e n (L[i]!) k = xs k) ∧ r = .returned (.tuple #[.int .i64 0, .int .i64 3]))
set_option maxRecDepth 100000 in
set_option maxHeartbeats 8000000 in
theorem r_Rank_ok (w : World) (S O L H X : Option Addr) (s sc o oc n c d xc : Nat) (xs : Nat → Int) (hx9 : IntsAt w X n xs) (ord tile form codec : Int) (lo hi : Nat → Int) (e : Nat → Nat) (hl : IntsAt w L n lo) (hh : IntsAt w H n hi) (h1 : 1 ≤ n) (h4 : n ≤ 4) (ho : ordB ord tile = true)
    (hb : ∀ k, k < n → I64 (lo k) ∧ I64 (hi k)) (hx : ordX lo hi n = 0) (he : ∀ k, k < n → 1 ≤ e k ∧ hi k = lo k + e k - 1 ∧ e k ≤ 4096) (hv : volC e n 0 ≤ 4096) (hw : wdTo lo hi n ≤ 15) (hY : ∀ t, LtN n (wdTo lo hi n) (offN e n t)) :
    Calls Tryz.prog 17 #[LayV S s sc O o oc ord tile form codec, BoxW L H n c n d, .slice X n xc] w fun r w' => RankX ord tile n lo hi e xs r ∧ Below w.heap.size w w' := by
  have HOr : Hid (∀ W, Calls Tryz.prog 51 #[LayV S s sc O o oc ord tile form codec] W fun r w' => r = .returned (.bool true) ∧ Below W.heap.size W w') := fun W => by rw [← ho]; exact r_order S O s sc o oc ord tile form codec W
  have hwf : formB n n = true := by unfold formB; simp [h1, h4]
  have HFm : Hid (∀ W, Calls Tryz.prog 45 #[BoxW L H n c n d] W fun r w' => r = .returned (.bool true) ∧ Below W.heap.size W w') := fun W => by rw [← hwf]; exact r_formed W L H n c n d
  have HSq : Hid (∀ W, Below w.heap.size w W → Calls Tryz.prog 15 #[LayV S s sc O o oc ord tile form codec, BoxW L H n c n d] W fun r w' => SeqX ord tile n lo hi e r w' ∧ Below W.heap.size W w') := fun W hW => r_Seq_ok W S O L H s sc o oc n c d ord tile form codec lo hi e (hl.below hW) (hh.below hW) h1 h4 ho hb hx he hv hw hY
  have HX := Lib.hid hx9
  have KB := Lib.hid (lay_box w S O s sc o oc ord tile form codec)
  have HB1 : Hid (Below w.heap.size w (w.alloc (.cells #[.slice S s sc, .slice O o oc, .int .i64 ord, .int .i64 tile, .int .i64 form, .int .i64 codec] 43))) := (Below.refl _ _).alloc (Nat.le_refl _) _
  have hz1 : (w.alloc (.cells #[.slice S s sc, .slice O o oc, .int .i64 ord, .int .i64 tile, .int .i64 form, .int .i64 codec] 43)).heap.size = w.heap.size + 1 := by simp
  go_enter Tryz.func17, Tryz.ntmps17
  go_wp2_with fail
  generalize w.alloc (.cells #[.slice S s sc, .slice O o oc, .int .i64 ord, .int .i64 tile, .int .i64 form, .int .i64 codec] 43) = Wa at *
  have K2 := Lib.hid (box_two Wa (.slice L n c) (.slice H n d) 45)
  have HB2 : Hid (Below Wa.heap.size Wa (Wa.alloc (.cells #[.slice L n c, .slice H n d] 45))) := (Below.refl _ _).alloc (Nat.le_refl _) _
  rw [hz1] at K2 HB2 KB
  have HB3 : Hid (Below w.heap.size w (Wa.alloc (.cells #[.slice L n c, .slice H n d] 45))) := Below.trans HB1.out (HB2.out.mono (by omega))
  generalize hWb : Wa.alloc (.cells #[.slice L n c, .slice H n d] 45) = Wb at *
  clear hWb
  have HK : Hid (∀ W, Below Wb.heap.size Wb W → (W.cell? ⟨w.heap.size, 0, none⟩ = some (.slice S s sc) ∧ W.cell? ⟨w.heap.size, 1, none⟩ = some (.slice O o oc) ∧ W.cell? ⟨w.heap.size, 2, none⟩ = some (.int .i64 ord) ∧ W.cell? ⟨w.heap.size, 3, none⟩ = some (.int .i64 tile) ∧ W.cell? ⟨w.heap.size, 4, none⟩ = some (.int .i64 form) ∧ W.cell? ⟨w.heap.size, 5, none⟩ = some (.int .i64 codec)) ∧ W.cell? ⟨w.heap.size + 1, 0, none⟩ = some (.slice L n c) ∧ W.cell? ⟨w.heap.size + 1, 1, none⟩ = some (.slice H n d)) := fun W hW => ⟨KB.out W (HB2.out.trans (hW.mono (by have := HB2.out.size; omega))), K2.out W hW⟩
  obtain ⟨⟨l0, l1, l2, l3, l4, l5⟩, m0, m1⟩ := HK.out Wb (Below.refl _ _)
  obtain ⟨V, hV⟩ : ∃ V, volC e n 0 = V := ⟨_, rfl⟩
  go_wp2_with (first
    | (go_at_call 51; refine (HOr.out _).mono ?_; rintro e w1 ⟨rfl, hb1⟩; obtain ⟨-, m0, m1⟩ := HK.out w1 hb1)
    | (go_at_call 45; refine (HFm.out _).mono ?_; rintro e w2 ⟨rfl, hb2⟩; have hb12 := st hb1 hb2; obtain ⟨⟨n0, n1, n2, n3, n4, n5⟩, n6, n7⟩ := HK.out w2 hb12)
    | (go_at_call 15; refine (HSq.out w2 (st HB3.out hb12)).mono ?_; rintro r3 w3 ⟨⟨A3, c3, L3, rfl, hli, hpe, hin⟩, hb3⟩; have HLi := Lib.hid hli; have HPe := Lib.hid hpe; have HIn := Lib.hid hin; have HB4 : Hid (Below w.heap.size w w3) := st HB3.out (st hb12 hb3); clear hli hpe hin hb3 hb12))
  have HV := Lib.hid hV
  have hV4 : V ≤ 4096 := by rw [← hV]; exact hv
  rw [hV] at HLi HPe
  clear hV hl hh hb hx he hY HSq HFm HOr
  go_loopw [10] (fun i wr => ∃ k : Nat, k ≤ V ∧ i = .int .i64 k ∧ Hid (∀ q, q < k → ¬ ∀ j, j < n → crdZ lo e n (L3[q]!) j = xs j) ∧ Hid (Below w3.heap.size w3 wr)) (fun i _ => V - (intOf i).toNat)
  case atStart => exact ⟨0, Nat.zero_le _, rfl, fun q hq => absurd hq (by omega), Below.refl _ _⟩
  case round =>
    obtain ⟨k, hk, rfl, HN, HBr⟩ := hrel
    have HBw : Hid (Below w.heap.size w wr) := st HB4.out HBr.out
    by_cases hlt : k < V
    · obtain ⟨b, o, rfl, hb9, hce⟩ := (HLi.out.below HBr.out) (by omega)
      obtain ⟨P, pc, p1, p2⟩ := hce k hlt
      have HCm : Hid (∀ W, Below wr.heap.size wr W → Calls Tryz.prog 32 #[.slice P n pc, .slice X n xc] W fun e' w' => e' = .returned (.int .i64 (cmpS n n (fun j => crdZ lo e n (L3[k]!) j) xs)) ∧ Below W.heap.size W w') := fun W hW => r_Compare W P X n pc n xc _ _ (p2.1.below hW) (HX.out.below (st HBw.out hW)) (by omega) (by omega)
      have HZ : Hid (cmpS n n (fun j => crdZ lo e n (L3[k]!) j) xs = 0 ↔ ∀ j, j < n → crdZ lo e n (L3[k]!) j = xs j) := cmpS_zero
      generalize cmpS n n (fun j => crdZ lo e n (L3[k]!) j) xs = z at *
      have hlt' : (k : Int) < (V : Int) := by omega
      go_wp2_with fail
      refine (HCm.out wr (Below.refl _ _)).mono ?_
      rintro e7 w7 ⟨rfl, hb7⟩
      have HB7 : Hid (Below w.heap.size w w7) := st HBw.out hb7
      have HB8 : Hid (Below w3.heap.size w3 w7) := st HBr.out hb7
      clear hb7 HCm
      by_cases hz : z = 0
      · have HZ0 := Lib.hid (HZ.out.1 hz)
        subst hz
        clear HZ
        go_wp2
        go_ret2
        refine ⟨⟨L3, by rw [HV.out]; exact HPe.out, HIn.out, .inl ⟨k, by rw [HV.out]; exact hlt, HZ0.out, rfl⟩⟩, HB7.out⟩
      · have HN2 : Hid (∀ q, q < k + 1 → ¬ ∀ j, j < n → crdZ lo e n (L3[q]!) j = xs j) := fun q hq h9 => by
          by_cases h : q = k
          · subst h; exact hz (HZ.out.2 h9)
          · exact HN.out q (by omega) h9
        have hz2 : (z == 0) = false := beq_eq_false_iff_ne.2 hz
        clear hz
        go_wp2
        exact ⟨⟨k + 1, by omega, by go_num, HN2, HB8⟩, by simp [intOf]; omega⟩
    · obtain rfl : k = V := by omega
      go_wp2_with fail
      go_ret2
      refine ⟨⟨L3, by rw [HV.out]; exact HPe.out, HIn.out, .inr ⟨by rw [HV.out]; exact HN.out, rfl⟩⟩, HBw.out⟩
end Go.Proofs.YtogmbehomilalaaGreatDoor
