/- Seq and Rank, whatever the order is. -/
import Derived.Test.YtogmbehomilalaaGreatDoorZSeqT
import Derived.Test.YtogmbehomilalaaGreatDoorZRkH
import Derived.Test.YtogmbehomilalaaGreatDoorZExtR
import Derived.Test.YtogmbehomilalaaGreatDoorZRnX
import Derived.Test.YtogmbehomilalaaGreatDoorZSeqR
import Derived.Test.YtogmbehomilalaaGreatDoorZSpJ
import Derived.Test.YtogmbehomilalaaGreatDoorZCmpS

/- Seq and Rank, whatever the order is. -/
section
namespace Go.Proofs.YtogmbehomilalaaGreatDoor
open Go Go.RowKit Go.Deep Go.Shelf

set_option maxRecDepth 100000 in
set_option maxHeartbeats 4000000 in
theorem s_order_bad (w : World) (S O L H : Option Addr) (s sc o oc n c m d : Nat) (ord tile form codec z : Int) (ho : ordB ord tile = false) :
    Calls Tryz.prog 46 #[LayV S s sc O o oc ord tile form codec, BoxW L H n c m d, .int .i64 z] w fun e w' => e = .returned (.int .i64 2) ∧ Below w.heap.size w w' := by
  have HVO : Hid (∀ W, Calls Tryz.prog 87 #[LayV S s sc O o oc ord tile form codec] W fun e w' => e = .returned (.bool false) ∧ Below W.heap.size W w') := fun W => by rw [← ho]; exact s_validOrder S O s sc o oc ord tile form codec W
  have KB := Lib.hid (lay_box w S O s sc o oc ord tile form codec)
  have HB1 : Hid (Below w.heap.size w ((w.alloc (.cells #[.slice S s sc, .slice O o oc, .int .i64 ord, .int .i64 tile, .int .i64 form, .int .i64 codec] 43)).alloc (.cells #[.slice L n c, .slice H m d] 45))) := ((Below.refl _ _).alloc (Nat.le_refl _) _).alloc (by simp) _
  have hz1 : (w.alloc (.cells #[.slice S s sc, .slice O o oc, .int .i64 ord, .int .i64 tile, .int .i64 form, .int .i64 codec] 43)).heap.size = w.heap.size + 1 := by simp
  go_enter Tryz.func46, Tryz.ntmps46
  go_wp2_with fail
  generalize w.alloc (.cells #[.slice S s sc, .slice O o oc, .int .i64 ord, .int .i64 tile, .int .i64 form, .int .i64 codec] 43) = Wa at *
  have HB2 : Hid (Below Wa.heap.size Wa (Wa.alloc (.cells #[.slice L n c, .slice H m d] 45))) := (Below.refl _ _).alloc (Nat.le_refl _) _
  generalize Wa.alloc (.cells #[.slice L n c, .slice H m d] 45) = Wb at *
  obtain ⟨l0, l1, l2, l3, l4, l5⟩ := KB.out Wb HB2.out
  go_wp2_with fail
  refine (HVO.out _).mono ?_
  rintro e w1 ⟨rfl, hb1⟩
  go_wp2
  go_ret
  exact ⟨rfl, st HB1.out hb1⟩
set_option maxRecDepth 100000 in
set_option maxHeartbeats 4000000 in
theorem s_Seq_bad (w : World) (S O L H : Option Addr) (s sc o oc n c m d : Nat) (ord tile form codec : Int) (ho : ordB ord tile = false) :
    Calls Tryz.prog 14 #[LayV S s sc O o oc ord tile form codec, BoxW L H n c m d] w fun e w' => e = .returned (.tuple #[.slice none 0 0, .int .i64 2]) ∧ Below w.heap.size w w' := by
  have HOE : Hid (∀ W, Calls Tryz.prog 46 #[LayV S s sc O o oc ord tile form codec, BoxW L H n c m d, .int .i64 n] W fun e w' => e = .returned (.int .i64 2) ∧ Below W.heap.size W w') := fun W => s_order_bad W S O L H s sc o oc n c m d ord tile form codec n ho
  have KB := Lib.hid (lay_box w S O s sc o oc ord tile form codec)
  have HB1 : Hid (Below w.heap.size w ((w.alloc (.cells #[.slice S s sc, .slice O o oc, .int .i64 ord, .int .i64 tile, .int .i64 form, .int .i64 codec] 43)).alloc (.cells #[.slice L n c, .slice H m d] 45))) := ((Below.refl _ _).alloc (Nat.le_refl _) _).alloc (by simp) _
  have hz1 : (w.alloc (.cells #[.slice S s sc, .slice O o oc, .int .i64 ord, .int .i64 tile, .int .i64 form, .int .i64 codec] 43)).heap.size = w.heap.size + 1 := by simp
  go_enter Tryz.func14, Tryz.ntmps14
  go_wp2_with fail
  generalize w.alloc (.cells #[.slice S s sc, .slice O o oc, .int .i64 ord, .int .i64 tile, .int .i64 form, .int .i64 codec] 43) = Wa at *
  have K2 := Lib.hid (box_two Wa (.slice L n c) (.slice H m d) 45)
  have HB2 : Hid (Below Wa.heap.size Wa (Wa.alloc (.cells #[.slice L n c, .slice H m d] 45))) := (Below.refl _ _).alloc (Nat.le_refl _) _
  rw [hz1] at K2
  generalize Wa.alloc (.cells #[.slice L n c, .slice H m d] 45) = Wb at *
  obtain ⟨l0, l1, l2, l3, l4, l5⟩ := KB.out Wb HB2.out
  obtain ⟨m0, m1⟩ := K2.out Wb (Below.refl _ _)
  go_wp2_with fail
  refine (HOE.out _).mono ?_
  rintro e w1 ⟨rfl, hb1⟩
  go_wp2
  go_ret2
  exact ⟨rfl, st HB1.out hb1⟩

end Go.Proofs.YtogmbehomilalaaGreatDoor
end

/- The program's Seq and Rank and the reference's: the same, whatever the layout, the box and the coordinates. -/
section
namespace Go.Proofs.YtogmbehomilalaaGreatDoor
open Go Go.RowKit Go.Deep Go.Shelf

/-- Digits, whatever they are, are those of a number. -/
theorem dig_ont2 {e d : Nat → Nat} : ∀ n, (∀ k, k < n → d k < e k) → radV e d n < volC e n 0 ∧ ∀ k, k < n → digC e n (radV e d n) k = d k
  | 0, _ => ⟨by rw [radV]; exact Nat.lt_succ_self 0, fun k hk => absurd hk (by omega)⟩
  | n + 1, h => by
    have ih := dig_ont2 n fun k hk => h k (by omega)
    have hd := h n (by omega)
    rw [radV]
    constructor
    · rw [volC_last e (Nat.zero_le n)]
      have : radV e d n * e n + e n ≤ volC e n 0 * e n := by rw [← Nat.succ_mul]; exact Nat.mul_le_mul_right _ ih.1
      omega
    · intro k hk
      rw [dig_more hd (by omega)]
      by_cases e9 : k = n
      · rw [if_pos e9, e9]
      · rw [if_neg e9]
        exact ih.2 k (by omega)
theorem hasTo_all {l g v : Nat → Int} : ∀ {n : Nat}, hasTo l g v n = true → ∀ k, k < n → l k ≤ v k ∧ (v k ≤ g k ∨ 1073741825 ≤ g k)
  | 0, _, k, hk => absurd hk (by omega)
  | n + 1, h, k, hk => by
    rw [hasTo] at h
    have h2 : hasTo l g v n = true ∧ l n ≤ v n ∧ (v n ≤ g n ∨ 1073741825 ≤ g n) := by
      simpa [belB, Bool.and_eq_true, and_assoc] using h
    by_cases e : k = n
    · subst e; exact h2.2
    · exact hasTo_all h2.1 k (by omega)
theorem kyK_inj {ord tile : Int} {lo hi : Nat → Int} {e : Nat → Nat} {n : Nat} (ho : ordB ord tile = true) (h1 : 1 ≤ n) (he : ∀ k, k < n → 1 ≤ e k ∧ hi k = lo k + e k - 1 ∧ e k ≤ 4096) (hv : volC e n 0 ≤ 4096) : ∀ s t, s < volC e n 0 → t < volC e n 0 → kyK ord tile lo hi n e s = kyK ord tile lo hi n e t → s = t := by
  rcases ord_cases3 ho with rfl | rfl | rfl
  · exact rmK_inj fun k hk => ⟨(he k hk).1, (he k hk).2.1⟩
  · exact hilK_inj h1 he
  · exact tlK_inj (fun k hk => ⟨(he k hk).1, (he k hk).2.1⟩) hv
/-- The reference's order is the program's. -/
theorem in_order {ord tile : Int} {lo hi : Nat → Int} {e : Nat → Nat} {n : Nat} (ho : ordB ord tile = true) (h1 : 1 ≤ n) (he : ∀ k, k < n → 1 ≤ e k ∧ hi k = lo k + e k - 1 ∧ e k ≤ 4096) (hv : volC e n 0 ≤ 4096) {L : List Nat} (hp : L.Perm (List.range (volC e n 0))) (hi9 : InOrdY (seqT ord tile n (wdTo lo hi n) lo e) L) : ∀ j, j < volC e n 0 → L[j]! = ((pairR (kyK ord tile lo hi n e) (volC e n 0))[j]!).2 := by
  refine ord_uniq (kyK_inj ho h1 he hv) hp ?_
  refine List.Pairwise.imp_of_mem (fun {x y} hx hy h => ?_) hi9
  have hx2 := List.mem_range.1 (hp.mem_iff.1 hx)
  have hy2 := List.mem_range.1 (hp.mem_iff.1 hy)
  have hk := key_cmp (hi := hi) ho (fun k hk => ⟨(he k hk).1, (he k hk).2.1⟩) hv hy2 hx2
  rw [Bool.not_eq_true'] at h
  have h2 : ¬ cmpS (keyLen ord n (wdTo lo hi n)) (keyLen ord n (wdTo lo hi n)) (keyX ord tile n (wdTo lo hi n) e y) (keyX ord tile n (wdTo lo hi n) e x) < 0 := of_decide_eq_false h
  rw [cmpS_n, hk] at h2
  rcases Int.lt_trichotomy (kyK ord tile lo hi n e y) (kyK ord tile lo hi n e x) with h3 | h3 | h3
  · rw [cmp_num.1.2 h3] at h2
    exact absurd (by decide) h2
  · omega
  · omega
theorem ListsAt.congrK {w : World} {A : Option Addr} {n : Nat} {ln : Nat → Nat} {f g : Nat → Nat → Int} (h : ListsAt w A n ln f) (hfg : ∀ t, t < n → ∀ k, f t k = g t k) : ListsAt w A n ln g := fun hn => by
  obtain ⟨b, o, h1, h2, h3⟩ := h hn
  refine ⟨b, o, h1, h2, fun k hk => ?_⟩
  obtain ⟨P, c, h4, h5, h6⟩ := h3 k hk
  exact ⟨P, c, h4, h5.congrK fun j _ => hfg k hk j, h6⟩
/-- Seq and Rank, with the program's keys. -/
theorem seq_rankK (w : World) (S O L H : Option Addr) (s sc o oc n c d : Nat) (ord tile form codec : Int) (lo hi : Nat → Int) (e : Nat → Nat) (hl : IntsAt w L n lo) (hh : IntsAt w H n hi) (h1 : 1 ≤ n) (h4 : n ≤ 4) (ho : ordB ord tile = true)
    (hb : ∀ k, k < n → -9223372036854775808 ≤ lo k ∧ lo k ≤ hi k ∧ hi k ≤ 1073741824 ∧ hi k - lo k < 4096) (he : ∀ k, k < n → 1 ≤ e k ∧ hi k = lo k + e k - 1) (hv : volC e n 0 ≤ 4096) (hw : wdTo lo hi n ≤ 15) :
      (∀ W, Below w.heap.size w W → Calls Tryz.prog 14 #[LayV S s sc O o oc ord tile form codec, BoxW L H n c n d] W fun e' w' => ∃ b, e' = .returned (.tuple #[.slice (some ⟨b, 0, none⟩) (volC e n 0) (volC e n 0), .int .i64 0]) ∧ ListsAt w' (some ⟨b, 0, none⟩) (volC e n 0) (fun _ => n) (fun t k => crdZ lo e n ((pairR (kyK ord tile lo hi n e) (volC e n 0))[t]!).2 k) ∧ Below W.heap.size W w') ∧
      (∀ W X xc t0, Below w.heap.size w W → IntsAt W X n (fun k => crdZ lo e n t0 k) → Calls Tryz.prog 16 #[LayV S s sc O o oc ord tile form codec, BoxW L H n c n d, .slice X n xc] W fun e' w' => e' = .returned (.tuple #[.int .i64 (cntTo (fun t => decide (kyK ord tile lo hi n e t < kyK ord tile lo hi n e t0)) (volC e n 0) : Nat), .int .i64 0]) ∧ Below W.heap.size W w') := by
  have hv2 : volO lo hi n ≤ 4096 := by rw [volO_all he]; exact hv
  rcases ord_cases3 ho with rfl | rfl | rfl
  · exact ⟨fun W hW => s_SeqR W S O L H s sc o oc n c d tile form codec lo hi e (hl.below hW) (hh.below hW) h1 h4 ho hb he hv2 hv, fun W X xc t0 hW hx => s_RankR W S O L H X s sc o oc n c d xc tile form codec lo hi e t0 (hl.below hW) (hh.below hW) hx h1 h4 ho hb he hv2 hv⟩
  · exact ⟨fun W hW => s_Seq W S O L H s sc o oc n c d tile form codec lo hi e (hl.below hW) (hh.below hW) h1 h4 ho hb he hv2 hv hw, fun W X xc t0 hW hx => s_RankH W S O L H X s sc o oc n c d xc tile form codec lo hi e t0 (hl.below hW) (hh.below hW) hx h1 h4 ho hb he hv2 hv hw⟩
  · exact ⟨fun W hW => s_SeqT W S O L H s sc o oc n c d tile form codec lo hi e (hl.below hW) (hh.below hW) h1 h4 ho hb he hv2 hv, fun W X xc t0 hW hx => s_RankT W S O L H X s sc o oc n c d xc tile form codec lo hi e t0 (hl.below hW) (hh.below hW) hx h1 h4 ho hb he hv2 hv⟩
/-- One answer of Seq, one of Rank, of both. -/
def SeqIs (w : World) (f : FuncId) (lay box : Value) (V n : Nat) (F : Nat → Nat → Int) (E : Int) : Prop := ∀ W, Below w.heap.size w W → Calls Tryz.prog f #[lay, box] W fun r w' => ∃ A c, r = .returned (.tuple #[.slice A V c, .int .i64 E]) ∧ ListsAt w' A V (fun _ => n) F ∧ Below W.heap.size W w'
def RankIs (w : World) (f : FuncId) (lay box x : Value) (z G : Int) : Prop := ∀ W, Below w.heap.size w W → Calls Tryz.prog f #[lay, box, x] W fun r w' => r = .returned (.tuple #[.int .i64 z, .int .i64 G]) ∧ Below W.heap.size W w'
theorem seq_nil {w : World} {f : FuncId} {lay box : Value} {n : Nat} {F : Nat → Nat → Int} {E : Int} (h : ∀ W, Below w.heap.size w W → Calls Tryz.prog f #[lay, box] W fun r w' => r = .returned (.tuple #[.slice none 0 0, .int .i64 E]) ∧ Below W.heap.size W w') : SeqIs w f lay box 0 n F E := fun W hW => (h W hW).mono fun _ _ h9 => ⟨none, 0, h9.1, fun h0 => absurd h0 (Nat.lt_irrefl 0), h9.2⟩
theorem both_order (w : World) (S O L H X : Option Addr) (s sc o oc n c m d r xc : Nat) (ord tile form codec : Int) (lo hi xs : Nat → Int) (hl : IntsAt w L n lo) (hh : IntsAt w H m hi) (hx : IntsAt w X r xs) (hbl : ∀ k, k < n → I64 (lo k)) (hbh : ∀ k, k < m → I64 (hi k)) (hr : r ≤ 10) :
    ∃ (V p : Nat) (F : Nat → Nat → Int) (E z G : Int), V ≤ 4096 ∧
      SeqIs w 14 (LayV S s sc O o oc ord tile form codec) (BoxW L H n c m d) V p F E ∧ SeqIs w 15 (LayV S s sc O o oc ord tile form codec) (BoxW L H n c m d) V p F E ∧
      RankIs w 16 (LayV S s sc O o oc ord tile form codec) (BoxW L H n c m d) (.slice X r xc) z G ∧ RankIs w 17 (LayV S s sc O o oc ord tile form codec) (BoxW L H n c m d) (.slice X r xc) z G := by
  by_cases ho : ordB ord tile = true
  · by_cases hf : formB n m = true
    · obtain ⟨rfl, h1, h4⟩ := formB_ok hf
      have hb : ∀ k, k < n → I64 (lo k) ∧ I64 (hi k) := fun k hk => ⟨hbl k hk, hbh k hk⟩
      have hoX : ∀ W, Below w.heap.size w W → Calls Tryz.prog 46 #[LayV S s sc O o oc ord tile form codec, BoxW L H n c n d, .int .i64 n] W fun e w' => e = .returned (.int .i64 (ordX lo hi n)) ∧ Below W.heap.size W w' := fun W hW => s_orderX W S O L H s sc o oc n c d ord tile form codec lo hi (hl.below hW) (hh.below hW) h1 h4 ho hb
      have hoS : r ≠ n → ∀ W, Below w.heap.size w W → Calls Tryz.prog 46 #[LayV S s sc O o oc ord tile form codec, BoxW L H n c n d, .int .i64 r] W fun e w' => e = .returned (.int .i64 13) ∧ Below W.heap.size W w' := fun hne W hW => s_orderS W S O L H s sc o oc n c n d ord tile form codec r ho fun _ => by omega
      by_cases hE : ordX lo hi n = 0
      · obtain ⟨hrg, hft1, hft2⟩ := ordX_zero hE
        obtain ⟨e, he9⟩ : ∃ e : Nat → Nat, ∀ k, e k = (hi k - lo k + 1).toNat := ⟨_, fun _ => rfl⟩
        have he : ∀ k, k < n → 1 ≤ e k ∧ hi k = lo k + e k - 1 ∧ e k ≤ 4096 := fun k hk => by
          have h5 := hrg k hk
          have h6 := hft1 k hk
          have h7 := he9 k
          omega
        have he2 : ∀ k, k < n → 1 ≤ e k ∧ hi k = lo k + e k - 1 := fun k hk => ⟨(he k hk).1, (he k hk).2.1⟩
        have hv : volC e n 0 ≤ 4096 := by rw [← volO_all he2]; exact hft2
        have hw : wdTo lo hi n ≤ 15 := Nat.le_trans (wd_le (b := 12) (by decide) fun k hk => by
          have h5 := hrg k hk
          have h6 := hft1 k hk
          have h7 : (2 : Nat) ^ 12 = 4096 := by decide
          omega) (by decide)
        have hY : ∀ t, LtN n (wdTo lo hi n) (offN e n t) := fun t k hk => by
          show (if k < n then _ else 0) < _
          rw [if_pos hk]
          have h5 := he k hk
          have h6 := digC_lt (t := t) (fun k hk => (he k hk).1) hk
          have h7 : (hi k - lo k).toNat < 2 ^ Lib.bitLen (hi k - lo k).toNat := bit_len_lt (Nat.lt_of_le_of_lt (show _ ≤ 4096 by omega) (by decide))
          have h8 := Nat.pow_le_pow_right (n := 2) (by decide) (wd_ge (lo := lo) (hi := hi) hk)
          omega
        have hb2 : ∀ k, k < n → -9223372036854775808 ≤ lo k ∧ lo k ≤ hi k ∧ hi k ≤ 1073741824 ∧ hi k - lo k < 4096 := fun k hk => ⟨(hbl k hk).1, (hrg k hk).2, (hrg k hk).1, hft1 k hk⟩
        have hsr := seq_rankK w S O L H s sc o oc n c d ord tile form codec lo hi e hl hh h1 h4 ho hb2 he2 hv hw
        have hsP : SeqIs w 14 (LayV S s sc O o oc ord tile form codec) (BoxW L H n c n d) (volC e n 0) n (fun t k => crdZ lo e n ((pairR (kyK ord tile lo hi n e) (volC e n 0))[t]!).2 k) 0 := fun W hW => (hsr.1 W hW).mono fun r w' h => by
          obtain ⟨b, h2, h3, h4⟩ := h
          exact ⟨_, _, h2, h3, h4⟩
        have hsR : SeqIs w 15 (LayV S s sc O o oc ord tile form codec) (BoxW L H n c n d) (volC e n 0) n (fun t k => crdZ lo e n ((pairR (kyK ord tile lo hi n e) (volC e n 0))[t]!).2 k) 0 := fun W hW => (r_Seq_ok W S O L H s sc o oc n c d ord tile form codec lo hi e (hl.below hW) (hh.below hW) h1 h4 ho hb hE he hv hw hY).mono fun r w' h => by
          obtain ⟨⟨A, cap, L9, h2, h3, h4, h5⟩, h6⟩ := h
          have hio := in_order ho h1 he hv h4 h5
          exact ⟨A, cap, h2, h3.congrK fun t ht k => by rw [hio t ht], h6⟩
        by_cases hrn : r = n
        · subst hrn
          have hrk : ∃ z G, RankIs w 16 (LayV S s sc O o oc ord tile form codec) (BoxW L H r c r d) (.slice X r xc) z G ∧ RankIs w 17 (LayV S s sc O o oc ord tile form codec) (BoxW L H r c r d) (.slice X r xc) z G := by
            by_cases hin : ∃ t0, t0 < volC e r 0 ∧ ∀ k, k < r → crdZ lo e r t0 k = xs k
            · obtain ⟨t0, ht0, hxs⟩ := hin
              refine ⟨_, _, fun W hW => hsr.2 W X xc t0 hW ((hx.below hW).congrK fun k hk => (hxs k hk).symm), fun W hW => (r_Rank_ok W S O L H X s sc o oc r c d xc xs (hx.below hW) ord tile form codec lo hi e (hl.below hW) (hh.below hW) h1 h4 ho hb hE he hv hw hY).mono fun r9 w' h => ?_⟩
              obtain ⟨⟨L9, hpe, hin9, h7 | h7⟩, h6⟩ := h
              · obtain ⟨i, hi9, hc, rfl⟩ := h7
                have hio := in_order ho h1 he hv hpe hin9 i hi9
                obtain ⟨u, hu, hu2⟩ := pairR_of (kyK ord tile lo hi r e) (volC e r 0) i hi9
                have hLi : L9[i]! = t0 := dig_inj (by rw [hio, hu2]; exact hu) ht0 fun k hk => by
                  have h8 := hc k hk
                  rw [← hxs k hk] at h8
                  unfold crdZ at h8
                  omega
                have h8 := rank_at (kyK_inj ho h1 he hv) hi9
                rw [← hio, hLi] at h8
                rw [h8]
                exact ⟨rfl, h6⟩
              · obtain ⟨hno, -⟩ := h7
                have hm : t0 ∈ L9 := hpe.mem_iff.2 (List.mem_range.2 ht0)
                obtain ⟨i, hi9, e9⟩ := List.getElem_of_mem hm
                have hlen := hpe.length_eq
                rw [List.length_range] at hlen
                refine absurd ?_ (hno i (by omega))
                intro k hk
                rw [getElem!_pos L9 i hi9, e9]
                exact hxs k hk
            · have hno : hasB r r r lo hi xs = false := by
                refine Bool.eq_false_iff.2 fun h => hin ?_
                unfold hasB at h
                rw [Bool.and_eq_true, Bool.and_eq_true] at h
                have h3 := hasTo_all h.2.2
                have h5 : ∀ k, k < r → lo k ≤ xs k ∧ xs k ≤ hi k := fun k hk => by
                  have h6 := h3 k hk
                  have h7 := hrg k hk
                  omega
                obtain ⟨a, b⟩ := dig_ont2 (e := e) (d := fun k => (xs k - lo k).toNat) r fun k hk => by
                  have h6 := h5 k hk
                  have h7 := he k hk
                  show (xs k - lo k).toNat < e k
                  omega
                exact ⟨_, a, fun k hk => by
                  have h6 := h5 k hk
                  unfold crdZ
                  rw [b k hk]
                  omega⟩
              refine ⟨0, 3, fun W hW => s_Rank_off W S O L H s sc o oc r c r d r xc X ord tile form codec (fun W2 h2 => ?_) (fun W2 h2 => ?_), fun W hW => (r_Rank_ok W S O L H X s sc o oc r c d xc xs (hx.below hW) ord tile form codec lo hi e (hl.below hW) (hh.below hW) h1 h4 ho hb hE he hv hw hY).mono fun r9 w' h => ?_⟩
              · have h3 := s_Has W2 L H X r c r d r xc lo hi xs (hl.below (st hW h2)) (hh.below (st hW h2)) (hx.below (st hW h2)) (by omega) (by omega)
                rw [hno] at h3
                exact h3
              · have h3 := hoX W2 (st hW h2)
                rw [hE] at h3
                exact h3
              · obtain ⟨⟨L9, hpe, hin9, h7 | h7⟩, h6⟩ := h
                · obtain ⟨i, hi9, hc, -⟩ := h7
                  have hio := in_order ho h1 he hv hpe hin9 i hi9
                  obtain ⟨u, hu, hu2⟩ := pairR_of (kyK ord tile lo hi r e) (volC e r 0) i hi9
                  exact absurd ⟨L9[i]!, by rw [hio, hu2]; exact hu, hc⟩ hin
                · exact ⟨h7.2, h6⟩
          obtain ⟨z, G, hz1, hz2⟩ := hrk
          exact ⟨_, _, _, _, z, G, hv, hsP, hsR, hz1, hz2⟩
        · exact ⟨_, _, _, _, 0, 13, hv, hsP, hsR, fun W hW => s_Rank_err W S O L H s sc o oc n c n d r xc X ord tile form codec 13 (by decide) fun W2 h2 => hoS hrn W2 (st hW h2), fun W hW => r_Rank_bad2b W S O L H s sc o oc n c n d ord tile form codec X r xc ho hf hrn⟩
      · have hex : ∀ W, Below w.heap.size w W → Calls Tryz.prog 52 #[BoxW L H n c n d] W fun r w' => r = .returned (.tuple #[.slice none 0 0, .int .i64 (ordX lo hi n)]) ∧ Below W.heap.size W w' := fun W hW => (r_extents W L H n c d lo hi (hl.below hW) (hh.below hW) h4 hb).mono fun r w' h => by
          obtain ⟨h2 | h2, h6⟩ := h
          · exact ⟨h2.2, h6⟩
          · exact absurd h2.1 hE
        have hsq : ∀ W, Below w.heap.size w W → Calls Tryz.prog 15 #[LayV S s sc O o oc ord tile form codec, BoxW L H n c n d] W fun r w' => r = .returned (.tuple #[.slice none 0 0, .int .i64 (ordX lo hi n)]) ∧ Below W.heap.size W w' := fun W hW => r_Seq_bad3 W S O L H s sc o oc n c n d ord tile form codec (ordX lo hi n) hE ho hf fun W2 h2 => hex W2 (st hW h2)
        by_cases hrn : r = n
        · subst hrn
          exact ⟨0, 0, fun _ _ => 0, _, _, _, Nat.zero_le _, seq_nil fun W hW => s_Seq_err W S O L H s sc o oc r c r d ord tile form codec _ hE fun W2 h2 => hoX W2 (st hW h2), seq_nil hsq, fun W hW => s_Rank_err W S O L H s sc o oc r c r d r xc X ord tile form codec _ hE fun W2 h2 => hoX W2 (st hW h2), fun W hW => r_Rank_bad3 W S O L H s sc o oc r c r d ord tile form codec X xc _ hE ho hf fun W2 h2 => hsq W2 (st hW h2)⟩
        · exact ⟨0, 0, fun _ _ => 0, _, _, _, Nat.zero_le _, seq_nil fun W hW => s_Seq_err W S O L H s sc o oc n c n d ord tile form codec _ hE fun W2 h2 => hoX W2 (st hW h2), seq_nil hsq, fun W hW => s_Rank_err W S O L H s sc o oc n c n d r xc X ord tile form codec 13 (by decide) fun W2 h2 => hoS hrn W2 (st hW h2), fun W hW => r_Rank_bad2b W S O L H s sc o oc n c n d ord tile form codec X r xc ho hf hrn⟩
    · have hf2 : formB n m = false := by simpa using hf
      have hoS : ∀ (z : Int) W, Below w.heap.size w W → Calls Tryz.prog 46 #[LayV S s sc O o oc ord tile form codec, BoxW L H n c m d, .int .i64 z] W fun e w' => e = .returned (.int .i64 13) ∧ Below W.heap.size W w' := fun z W hW => s_orderS W S O L H s sc o oc n c m d ord tile form codec z ho fun h => absurd h hf
      exact ⟨0, 0, fun _ _ => 0, 13, 0, 13, Nat.zero_le _, seq_nil fun W hW => s_Seq_err W S O L H s sc o oc n c m d ord tile form codec 13 (by decide) fun W2 h2 => hoS n W2 (st hW h2), seq_nil fun W hW => r_Seq_bad2 W S O L H s sc o oc n c m d ord tile form codec ho hf2, fun W hW => s_Rank_err W S O L H s sc o oc n c m d r xc X ord tile form codec 13 (by decide) fun W2 h2 => hoS r W2 (st hW h2), fun W hW => r_Rank_bad2 W S O L H s sc o oc n c m d ord tile form codec X r xc ho hf2⟩
  · have ho2 : ordB ord tile = false := by simpa using ho
    exact ⟨0, 0, fun _ _ => 0, 2, 0, 2, Nat.zero_le _, seq_nil fun W hW => s_Seq_bad W S O L H s sc o oc n c m d ord tile form codec ho2, seq_nil fun W hW => r_Seq_bad1 W S O L H s sc o oc n c m d ord tile form codec ho2, fun W hW => s_Rank_err W S O L H s sc o oc n c m d r xc X ord tile form codec 2 (by decide) fun W2 h2 => s_order_bad W2 S O L H s sc o oc n c m d ord tile form codec r ho2, fun W hW => r_Rank_bad1 W S O L H s sc o oc n c m d ord tile form codec X r xc ho2⟩
end Go.Proofs.YtogmbehomilalaaGreatDoor
end

/- The law's large: it returns a truth value, whatever the box. -/
section
namespace Go.Proofs.YtogmbehomilalaaGreatDoor
open Go Go.RowKit Go.Deep

set_option maxRecDepth 100000 in
set_option maxHeartbeats 4000000 in
theorem l_large (w : World) (L H : Option Addr) (n c m d : Nat) (lo hi : Nat → Int) (hl : IntsAt w L n lo) (hh : IntsAt w H m hi) :
    Calls Tryz.prog 13 #[BoxW L H n c m d] w fun e w' => ∃ r, e = .returned (.bool r) ∧ Below w.heap.size w w' := by
  have KB := Lib.hid (box_two w (.slice L n c) (.slice H m d) 45)
  have HB : Hid (Below w.heap.size w (w.alloc (.cells #[.slice L n c, .slice H m d] 45))) := (Below.refl _ _).alloc (Nat.le_refl _) _
  have HF := Lib.hid (r_formed (w.alloc (.cells #[.slice L n c, .slice H m d] 45)) L H n c m d)
  have HL := Lib.hid hl
  have HH := Lib.hid hh
  clear hl hh
  go_enter Tryz.func13, Tryz.ntmps13
  obtain ⟨m0, m1⟩ := KB.out _ (Below.refl _ _)
  go_wp2_with fail
  clear m0 m1
  generalize w.alloc (.cells #[.slice L n c, .slice H m d] 45) = W0 at *
  refine HF.out.mono ?_
  rintro e w1 ⟨rfl, hb1⟩
  have HB1 := Lib.hid hb1
  clear hb1 HF
  cases hf : formB n m
  · go_wp2
    go_ret
    exact ⟨_, rfl, st HB.out HB1.out⟩
  · obtain ⟨rfl, h1, h4⟩ := formB_ok hf
    clear hf
    have HBw : Hid (Below w.heap.size w w1) := st HB.out HB1.out
    go_wp2_with fail
    go_loopw [3, 4] (fun v i wr => ∃ (k : Nat) (z : Int), k ≤ n ∧ i = .int .i64 k ∧ v = .int .i64 z ∧ Hid (Below w1.heap.size w1 wr)) (fun _ i _ => n - (intOf i).toNat)
    case atStart => exact ⟨0, 1, Nat.zero_le _, rfl, rfl, Below.refl _ _⟩
    case round =>
      obtain ⟨k, z, hk, rfl, rfl, HBr⟩ := hrel
      obtain ⟨m0, m1⟩ := KB.out wr (st HB1.out HBr.out)
      have HBw2 : Hid (Below w.heap.size w wr) := st HBw.out HBr.out
      by_cases hlt : k < n
      · obtain ⟨b1, o1, rfl, _, hc1⟩ := (HH.out.below HBw2.out) (by omega)
        have x0 := hc1 k hlt
        obtain ⟨b2, o2, rfl, _, hc2⟩ := (HL.out.below HBw2.out) (by omega)
        have y0 := hc2 k hlt
        clear hc1 hc2
        generalize lo k = x at *
        generalize hi k = y at *
        by_cases g1 : y ≥ 1073741825
        · go_wp2_with fail
          go_quiet (fail)
          go_wp2
          go_ret
          exact ⟨_, rfl, bel_dN HBw2.out _⟩
        · have hd1 : decide (y ≥ 1073741825) = false := decide_eq_false g1
          by_cases g2 : x > y
          · have hd2 : decide (x > y) = true := decide_eq_true g2
            go_wp2_with fail
            go_quiet (fail)
            go_wp2
            go_ret
            exact ⟨_, rfl, bel_dN HBw2.out _⟩
          · obtain ⟨q, hq⟩ : ∃ q, IntKind.u64.wrap (IntKind.u64.wrap y - IntKind.u64.wrap x) = q := ⟨_, rfl⟩
            obtain ⟨r1, hr1⟩ : ∃ r1, IntKind.i64.wrap (y - x) = r1 := ⟨_, rfl⟩
            obtain ⟨r2, hr2⟩ : ∃ r2, IntKind.i64.wrap (r1 + 1) = r2 := ⟨_, rfl⟩
            obtain ⟨r3, hr3⟩ : ∃ r3, IntKind.i64.wrap (z * r2) = r3 := ⟨_, rfl⟩
            have HR3 := Lib.hid (And.intro hr1 (And.intro hr2 hr3))
            clear hr1 hr2 hr3
            have hd2 : decide (x > y) = false := decide_eq_false g2
            by_cases g3 : q ≥ 4096
            · have hd3 : decide (q ≥ 4096) = true := decide_eq_true g3
              go_wp2_with fail
              go_quiet (fail)
              go_wp2
              go_ret
              exact ⟨_, rfl, bel_dN HBw2.out _⟩
            · have hd3 : decide (q ≥ 4096) = false := decide_eq_false g3
              go_wp2_with fail
              go_quiet (fail)
              have x2 : (wr.drewN nq).cell? ⟨b1, o1 + k, none⟩ = some (.int .i64 y) := x0
              have y2 : (wr.drewN nq).cell? ⟨b2, o2 + k, none⟩ = some (.int .i64 x) := y0
              have m2 : (wr.drewN nq).cell? ⟨w.heap.size, 0, none⟩ = some (.slice (some ⟨b2, o2, none⟩) n c) := m0
              have m3 : (wr.drewN nq).cell? ⟨w.heap.size, 1, none⟩ = some (.slice (some ⟨b1, o1, none⟩) n d) := m1
              have HB5 : Hid (Below w1.heap.size w1 (wr.drewN nq)) := bel_dN HBr.out nq
              clear m0 m1 x0 y0 hq g3 HBw2 HBr hd1 hd2 hd3
              generalize wr.drewN nq = w5 at *
              obtain ⟨hr1, hr2, hr3⟩ := HR3.out
              by_cases g4 : r3 > 4096
              · go_wp2_with fail
                go_quiet (fail)
                go_wp2_with fail
                go_ret
                exact ⟨_, rfl, bel_dN (st HBw.out HB5.out) _⟩
              · go_wp2_with fail
                go_quiet (fail)
                go_wp2_with fail
                exact ⟨⟨k + 1, r3, by omega, by go_num, rfl, bel_dN HB5.out _⟩, by simp [intOf]; omega⟩
      · obtain rfl : k = n := by omega
        go_wp2_with fail
        go_ret
        exact ⟨_, rfl, HBw2.out⟩
end Go.Proofs.YtogmbehomilalaaGreatDoor
end

/- Chunks and their neighbours: arithmetic. -/
section
namespace Go.Proofs.YtogmbehomilalaaGreatDoor
open Go Go.RowKit Go.Deep

end Go.Proofs.YtogmbehomilalaaGreatDoor
end

/- Coordinates in a box, a list among others, and the driver's layout. -/
section
namespace Go.Proofs.YtogmbehomilalaaGreatDoor
open Go Go.RowKit Go.Deep

theorem l_layout (S O : Option Addr) (s sc o oc : Nat) (ord tile form codec : Int) (w : World) :
    Calls Tryz.prog 12 #[LayV S s sc O o oc ord tile form codec] w fun e w' => e = .returned (.bool (decide (s ≤ 10) && decide (o ≤ 10))) ∧ Below w.heap.size w w' := by
  have hb : Below w.heap.size w (w.alloc (.cells #[.slice S s sc, .slice O o oc, .int .i64 ord, .int .i64 tile, .int .i64 form, .int .i64 codec] 43)) := (Below.refl _ _).alloc (Nat.le_refl _) _
  have e1 : decide (s ≤ 10) = decide ((s : Int) ≤ 10) := by rw [decide_eq_decide]; omega
  have e2 : decide (o ≤ 10) = decide ((o : Int) ≤ 10) := by rw [decide_eq_decide]; omega
  rw [e1, e2]
  obtain ⟨l0, l1, l2, l3, l4, l5⟩ := lay_box w S O s sc o oc ord tile form codec _ (Below.refl _ _)
  go_enter Tryz.func12, Tryz.ntmps12
  by_cases g1 : (s : Int) ≤ 10
  · rw [decide_eq_true g1]
    go_wp2
    go_ret
    exact ⟨rfl, hb⟩
  · rw [decide_eq_false g1]
    go_wp2
    go_ret
    exact ⟨rfl, hb⟩
end Go.Proofs.YtogmbehomilalaaGreatDoor
end
