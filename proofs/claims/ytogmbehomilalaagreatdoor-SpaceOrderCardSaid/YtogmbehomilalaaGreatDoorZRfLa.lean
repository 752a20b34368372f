/- The reference's key of the Hilbert order. -/
import Derived.Test.YtogmbehomilalaaGreatDoorZSmA
import Derived.Test.YtogmbehomilalaaGreatDoorZExtR
import Derived.Test.YtogmbehomilalaaGreatDoorZRfC
import Derived.Test.YtogmbehomilalaaGreatDoorZOkK
import Derived.BigQuiet
import Derived.Test.YtogmbehomilalaaGreatDoorZLSa
import Derived.Test.YtogmbehomilalaaGreatDoorZInvReg
import Derived.Test.YtogmbehomilalaaGreatDoorZSpG

/- The reference's key of the Hilbert order. -/
section
namespace Go.Proofs.YtogmbehomilalaaGreatDoor
open Go Go.RowKit Go.Deep

/-- Natural numbers in a list of the walk's own. -/
def OwnN (w : World) (B g n cc : Nat) (Z : Nat → Nat) : Prop := OwnI w B (.slice (some ⟨g, 0, none⟩) n cc) n fun j => ((Z j : Nat) : Int)
theorem OwnN.at_ {w : World} {B g n cc : Nat} {Z : Nat → Nat} (h : OwnN w B g n cc Z) (hn : 0 < n) : B ≤ g ∧ (∀ k, k < n → w.cell? ⟨g, k, none⟩ = some (.int .i64 ((Z k : Nat) : Int))) ∧ (∀ k, w.frozen? ⟨g, k, none⟩ = false) ∧ ∀ k y, k < n → OwnN (w.setCell ⟨g, k, none⟩ (.int .i64 ((y : Nat) : Int))) B g n cc (updN Z k y) := by
  obtain ⟨g', cap, e, h1, h2, h3, h4, h5⟩ := h.put hn
  injection e with e _ _
  injection e with e
  injection e with e _ _
  subst e
  refine ⟨h1, h3, h4, fun k y hk => (h5 k y hk).congr fun j _ => ?_⟩
  unfold updZ updN
  split <;> rfl
theorem OwnN.congr {w : World} {B g n cc : Nat} {Z Y : Nat → Nat} (h : OwnN w B g n cc Z) (he : ∀ j, j < n → Z j = Y j) : OwnN w B g n cc Y := OwnI.congr h fun j hj => by rw [he j hj]

set_option maxRecDepth 100000 in
set_option maxHeartbeats 8000000 in
theorem r_key (w : World) (A : Option Addr) (n yc wd : Nat) (Y : Nat → Nat) (hy : IntsAt w A n fun j => ((Y j : Nat) : Int)) (h1 : 1 ≤ n) (hn : n ≤ 4) (hw : wd ≤ 15) (hY : LtN n wd Y) :
    Calls Tryz.prog 98 #[.slice A n yc, .int .i64 wd] w fun e w' => NewI w' w.heap.size (wd * n) (fun j => ((bitL (hilY n wd Y) n wd j : Nat) : Int)) e ∧ Below w.heap.size w w' := by
  have HA := Lib.hid hy
  have HYb := Lib.hid hY
  have HLit := Lib.hid (OwnI.lit w w.heap.size (Nat.le_refl _) fun _ => 0)
  have HBl : Hid (Below w.heap.size w (w.alloc (.cells #[] 3))) := bel_nw _ _
  have h62 : (2 : Nat) ^ wd ≤ 2 ^ 15 := Nat.pow_le_pow_right (by decide) hw
  have HP62 : Hid (∀ x : Nat, x < 2 ^ wd → x < 2 ^ 62) := fun x hx => Nat.lt_of_lt_of_le hx (Nat.le_trans h62 (by decide))
  have HV : Hid (hilY n wd Y = xorTo (tW (grayTo (turnsW n (wd - 1) Y) (n - 1) (n - 1)) (wd - 1) 0) (grayTo (turnsW n (wd - 1) Y) (n - 1)) n) := rfl
  obtain ⟨HY, hHY⟩ : ∃ HY, hilY n wd Y = HY := ⟨_, rfl⟩
  rw [hHY] at HV ⊢
  clear hy hY hHY h62
  go_enter Tryz.func98, Tryz.ntmps98
  go_wp2_with (at_builtin; refine wpList_appIs rfl _ _ rfl (w.alloc (.cells #[] 3)) w.heap.size (.slice (some ⟨w.heap.size, 0, none⟩) 0 0) 0 (fun _ => 0) rfl A n yc _ rfl (HA.out.below HBl.out) HLit.out (by omega) HBl.out.size ?_; intro v4 w4 hown hgr hat; rw [Nat.zero_add] at hown; obtain ⟨g, cc, hv4, -⟩ := hown.put (by omega); subst hv4; have HB4 : Hid (Below w.heap.size w w4) := HBl.out.grown hgr HBl.out.size (fun g hg => (HLit.out.block hg).1); have HO4 : Hid (OwnN w4 w.heap.size g n cc Y) := OwnI.congr hown (fun j _ => by unfold catI; rw [if_neg (by omega), Nat.sub_zero]); clear hown hgr hat)
  have hYb : ∀ j, j < n → Y j < 2 ^ wd := HYb.out
  clear HA HLit HBl
  go_loopw [6, 7, 8, 9, 10] (fun q _ _ _ _ wr => ∃ (r : Nat) (Z : Nat → Nat), r ≤ wd ∧ q = .int .i64 ((r : Int) - 1) ∧ Hid (OwnN wr w.heap.size g n cc Z) ∧ Hid (turnsW n (r - 1) Z = turnsW n (wd - 1) Y) ∧ Hid (LtN n wd Z) ∧ Hid (Below w.heap.size w wr)) (fun q _ _ _ _ _ => (intOf q + 1).toNat)
  case atStart => exact ⟨wd, Y, Nat.le_refl _, rfl, HO4, rfl, HYb, HB4⟩
  case round =>
    obtain ⟨r, Z, hrw, rfl, HO, HZ, HZb, HBr⟩ := hrel
    by_cases h2 : 2 ≤ r
    · obtain ⟨s, rfl⟩ : ∃ s, r = s + 1 := ⟨r - 1, by omega⟩
      rw [show (((s + 1 : Nat) : Int) - 1) = (s : Nat) by omega]
      have hs1 : (1 : Int) ≤ (s : Nat) := by omega
      obtain ⟨hw1, hw2⟩ := wraps_low (s := s) (by omega)
      have HTb : Hid (∀ i, i ≤ n → LtN n wd (turnTo s Z i)) := fun i hi => turnTo_ltN HZb.out (by omega) i hi
      have HZ2 : Hid (turnsW n (s - 1) (turnTo s Z n) = turnsW n (wd - 1) Y) := by
        obtain ⟨p, rfl⟩ : ∃ p, s = p + 1 := ⟨s - 1, by omega⟩
        exact HZ.out
      obtain ⟨wo, rfl⟩ : ∃ wo, wo = wr := ⟨_, rfl⟩
      have HBit := Lib.hid r_bit
      have HSt : Hid (∀ Y k, stepH s Y k = bif bitN (Y k) s == 1 then updN Y 0 (Y 0 ^^^ (2 ^ s - 1)) else updN (updN Y 0 (Y 0 ^^^ ((Y 0 ^^^ Y k) &&& (2 ^ s - 1)))) k (updN Y 0 (Y 0 ^^^ ((Y 0 ^^^ Y k) &&& (2 ^ s - 1))) k ^^^ ((Y 0 ^^^ Y k) &&& (2 ^ s - 1)))) := fun _ _ => rfl
      have HSw : Hid (∀ x y : Nat, x - (x &&& (2 ^ s - 1)) + (y &&& (2 ^ s - 1)) = x ^^^ ((x ^^^ y) &&& (2 ^ s - 1))) := fun x y => swap_low x y s
      have hlow : 2 ^ s - 1 < 2 ^ 62 := low_lt (by omega)
      have hs15 : s ≤ 15 := by omega
      go_wp2_with fail
      rw [hw2]
      clear hw1 hw2 HZ
      generalize 2 ^ s - 1 = low at *
      go_loopw [8, 9, 10] (fun i _ _ wr => ∃ k : Nat, k ≤ n ∧ i = .int .i64 k ∧ Hid (OwnN wr w.heap.size g n cc (turnTo s Z k)) ∧ Hid (Below w.heap.size w wr)) (fun i _ _ _ => n - (intOf i).toNat)
      case atStart => exact ⟨0, Nat.zero_le _, rfl, HO, HBr⟩
      case round =>
        obtain ⟨k, hk, rfl, HOk, HBk⟩ := hrel
        by_cases hlt : k < n
        · have hlt' : (k : Int) < (n : Int) := by omega
          have hlb := HTb.out k hk
          have HR : Hid (turnTo s Z (k + 1) = stepH s (turnTo s Z k) k) := rfl
          rw [HSt.out] at HR
          generalize turnTo s Z k = G at *
          have hl0 := HP62.out _ (hlb 0 (by omega))
          have hlk := HP62.out _ (hlb k hlt)
          obtain ⟨hge, hcel, hfrz, hput⟩ := HOk.out.at_ (by omega)
          have c0 := hcel 0 (by omega)
          have ck := hcel k hlt
          have z0 := hfrz 0
          have zk := hfrz k
          have HPut := Lib.hid hput
          have hx := xor_i hl0 hlow
          clear hcel hfrz hput
          cases hb : bitN (G k) s == 1
          · rw [hb] at HR
            have HR0 : Hid (k = 0 → ∀ j, turnTo s Z (k + 1) j = G j) := fun h j => by
              rw [HR.out]
              subst h
              show updN (updN G 0 (G 0 ^^^ ((G 0 ^^^ G 0) &&& low))) 0 (updN G 0 (G 0 ^^^ ((G 0 ^^^ G 0) &&& low)) 0 ^^^ ((G 0 ^^^ G 0) &&& low)) j = G j
              unfold updN
              rw [Nat.xor_self, Nat.zero_and]
              by_cases e : j = 0
              · rw [if_pos e, if_pos rfl, e, Nat.xor_zero, Nat.xor_zero]
              · rw [if_neg e, if_neg e]
            by_cases h0 : k = 0
            · have HR1 := Lib.hid (HR0.out h0)
              subst h0
              clear HR0
              go_wp2_with (go_at_call 125; refine (HBit.out _ _ _ hl0 (by omega)).mono ?_; rintro e w7 ⟨rfl, rfl⟩; rw [hb])
              exact ⟨⟨1, by omega, by go_num, HOk.out.congr fun j _ => (HR1.out j).symm, HBk⟩, by simp [intOf]; omega⟩
            · have h0' : (k : Int) > 0 := by omega
              have H0 := Lib.hid h0
              clear h0 HR0
              have ha := and_i hl0 hlow
              have hab := and_i hlk hlow
              have ha0 : G 0 &&& low ≤ G 0 := Nat.and_le_left
              have hb0 : G k &&& low ≤ G k := Nat.and_le_left
              have HA1 : Hid (G 0 - (G 0 &&& low) + (G k &&& low) = G 0 ^^^ ((G 0 ^^^ G k) &&& low)) := HSw.out _ _
              have HA2 : Hid (G k - (G k &&& low) + (G 0 &&& low) = G k ^^^ ((G 0 ^^^ G k) &&& low)) := by
                show _ = _
                rw [Nat.xor_comm (G 0)]
                exact HSw.out _ _
              generalize G 0 &&& low = a at *
              generalize G k &&& low = b at *
              generalize hg0 : G 0 = x0 at *
              generalize hgk : G k = xk at *
              have HG0 := Lib.hid hg0
              have HGk := Lib.hid hgk
              clear hg0 hgk
              have h62 : (2 : Nat) ^ 62 = 4611686018427387904 := p62
              rw [h62] at hl0 hlk
              obtain ⟨d1, hd1⟩ : ∃ d1, d1 = x0 - a := ⟨_, rfl⟩
              obtain ⟨d2, hd2⟩ : ∃ d2, d2 = xk - b := ⟨_, rfl⟩
              obtain ⟨e1, he1⟩ : ∃ e1, e1 = d1 + b := ⟨_, rfl⟩
              obtain ⟨e2, he2⟩ : ∃ e2, e2 = d2 + a := ⟨_, rfl⟩
              have hw3 : IntKind.i64.wrap ((x0 : Int) - (a : Int)) = (d1 : Int) := by rw [w64 (by omega) (by omega)]; omega
              have hw4 : IntKind.i64.wrap ((d1 : Int) + (b : Int)) = (e1 : Int) := by rw [w64 (by omega) (by omega)]; omega
              have hw5 : IntKind.i64.wrap ((xk : Int) - (b : Int)) = (d2 : Int) := by rw [w64 (by omega) (by omega)]; omega
              have hw6 : IntKind.i64.wrap ((d2 : Int) + (a : Int)) = (e2 : Int) := by rw [w64 (by omega) (by omega)]; omega
              rw [← hd1, ← he1] at HA1
              rw [← hd2, ← he2] at HA2
              have hlk2 : xk < 2 ^ 62 := by rw [h62]; exact hlk
              have HLk := Lib.hid hlk2
              clear h62 hd1 hd2 he1 he2 ha0 hb0 hlk2 hl0 hlk hlow hx hlb
              go_wp2_with (go_at_call 125; refine (HBit.out wr xk s HLk.out (by omega)).mono ?_; rintro e w7 ⟨rfl, rfl⟩; rw [hb])
              go_quiet (fail)
              have HO8 : Hid (OwnN (w7.drewN nq) w.heap.size g n cc G) := OwnI.below HOk.out (bel_dN (Below.refl _ _) nq)
              have HB8 : Hid (Below w.heap.size w (w7.drewN nq)) := bel_dN HBk.out nq
              clear c0 ck z0 zk HPut HOk HBk ha hab hge
              generalize w7.drewN nq = w8 at *
              obtain ⟨hge, hcel, hfrz, hput⟩ := HO8.out.at_ (by omega)
              have c0 := hcel 0 (by omega)
              have ck := hcel k hlt
              rw [HG0.out] at c0
              rw [HGk.out] at ck
              have z0 := hfrz 0
              have HO9 : Hid (OwnN (w8.setCell ⟨g, 0, none⟩ (.int .i64 (e1 : Nat))) w.heap.size g n cc (updN G 0 e1)) := hput 0 e1 (by omega)
              have HB9 : Hid (Below w.heap.size w (w8.setCell ⟨g, 0, none⟩ (.int .i64 (e1 : Nat)))) := HB8.out.setCell (p := ⟨g, 0, none⟩) hge _
              obtain ⟨_, hcel9, hfrz9, hput9⟩ := HO9.out.at_ (by omega)
              have ck9 : (w8.setCell ⟨g, 0, none⟩ (.int .i64 (e1 : Nat))).cell? ⟨g, k, none⟩ = some (.int .i64 (xk : Nat)) := by
                rw [hcel9 k hlt]
                have h9 : updN G 0 e1 k = xk := by unfold updN; rw [if_neg H0.out, HGk.out]
                rw [h9]
              have zk9 := hfrz9 k
              have HO10 := Lib.hid (hput9 k e2 hlt)
              have HB10 : Hid (Below w.heap.size w ((w8.setCell ⟨g, 0, none⟩ (.int .i64 (e1 : Nat))).setCell ⟨g, k, none⟩ (.int .i64 (e2 : Nat)))) := HB9.out.setCell (p := ⟨g, k, none⟩) hge _
              have HE : Hid (∀ j, updN (updN G 0 e1) k e2 j = turnTo s Z (k + 1) j) := fun j => by
                rw [HR.out]
                show _ = updN (updN G 0 (x0 ^^^ ((x0 ^^^ xk) &&& low))) k (updN G 0 (x0 ^^^ ((x0 ^^^ xk) &&& low)) k ^^^ ((x0 ^^^ xk) &&& low)) j
                rw [← HA1.out]
                have h8 : updN G 0 e1 k = xk := by unfold updN; rw [if_neg H0.out, HGk.out]
                rw [h8, ← HA2.out]
              clear hcel hfrz hput hcel9 hfrz9 hput9
              go_wp2_with fail
              exact ⟨⟨k + 1, by omega, by go_num, HO10.out.congr fun j _ => HE.out j, HB10⟩, by simp [intOf]; omega⟩
          · rw [hb] at HR
            go_wp2_with (go_at_call 125; refine (HBit.out _ _ _ hlk (by omega)).mono ?_; rintro e w7 ⟨rfl, rfl⟩; rw [hb])
            refine ⟨⟨k + 1, by omega, by go_num, ?_, HBk.out.setCell (p := ⟨g, 0, none⟩) hge _⟩, by simp [intOf]; omega⟩
            show OwnN _ _ _ _ _ _
            rw [HR.out]
            exact HPut.out 0 _ (by omega)
        · obtain rfl : k = n := by omega
          go_wp2_with fail
          exact ⟨⟨s, turnTo s Z k, by omega, rfl, HOk, HZ2.out, HTb.out k (Nat.le_refl _), HBk⟩, by simp [intOf]⟩
    · have hr1 : r - 1 = 0 := by omega
      have HZ2 : Hid (Z = turnsW n (wd - 1) Y) := by have := HZ.out; rw [hr1] at this; exact this
      rw [← HZ2.out] at HV
      have hq : ¬ (1 : Int) ≤ (r : Int) - 1 := by omega
      have HGL : Hid (∀ i, i < n → LtN n wd (grayTo Z i)) := fun i hi => grayTo_ltN HZb.out i hi
      clear HZ HZ2 HB4 HO4 HYb hYb
      go_wp2_with fail
      go_loopw [11] (fun i wr => ∃ p : Nat, p + 1 ≤ n ∧ i = .int .i64 ((p : Int) + 1) ∧ Hid (OwnN wr w.heap.size g n cc (grayTo Z p)) ∧ Hid (Below w.heap.size w wr)) (fun i _ => n - (intOf i).toNat)
      case atStart => exact ⟨0, h1, rfl, HO, HBr⟩
      case round =>
        obtain ⟨p, hp, rfl, HOp, HBp⟩ := hrel
        by_cases hlt : p + 1 < n
        · obtain ⟨s, hs⟩ : ∃ s, s = p + 1 := ⟨_, rfl⟩
          rw [show ((p : Int) + 1) = (s : Nat) by omega]
          have HR : Hid (grayTo Z s = updN (grayTo Z p) s (grayTo Z p s ^^^ grayTo Z p p)) := by rw [hs]; rfl
          have hls := HP62.out _ (HGL.out p (by omega) s (by omega))
          have hlp := HP62.out _ (HGL.out p (by omega) p (by omega))
          have hx := xor_i hls hlp
          generalize grayTo Z p = G at *
          obtain ⟨hge, hcel, hfrz, hput⟩ := HOp.out.at_ (by omega)
          have g1 := hcel s (by omega)
          have g0 := hcel p (by omega)
          have gz := hfrz s
          have hw9 : IntKind.i64.wrap ((s : Int) - 1) = (p : Nat) := by rw [w64 (n := (s : Int) - 1) (by omega) (by omega)]; omega
          have HOq := Lib.hid (hput s (G s ^^^ G p) (by omega))
          have b1 : (0 : Int) ≤ (s : Int) := by omega
          have b2 : (s : Int) < (n : Int) := by omega
          have b3 : (0 : Int) ≤ (p : Int) := by omega
          have b4 : (p : Int) < (n : Int) := by omega
          have Hs := Lib.hid hs
          clear hs hcel hfrz hput hls hlp
          go_wp2_with fail
          go_region
          go_wp2
          refine ⟨⟨s, by have := Hs.out; omega, by go_num, ?_, (HBp.out.setCell (p := ⟨g, s, none⟩) hge _).drew⟩, by simp [intOf]; omega⟩
          show OwnN _ _ _ _ _ _
          rw [HR.out]
          exact OwnI.below HOq.out (Below.drew (Below.refl _ _))
        · have hn9 : n - 1 = p := by omega
          have hnp : ¬ ((p : Int) + 1) < ((n : Nat) : Int) := by omega
          obtain ⟨wc, hwc⟩ : ∃ wc, wc = wr := ⟨_, rfl⟩
          rw [← hwc] at HOp HBp
          rw [← hwc]
          clear hwc HO HBr
          have HGb := Lib.hid (HGL.out p (by omega))
          have HV3 : Hid (HY = xorTo (tW (grayTo Z p p) (wd - 1) 0) (grayTo Z p) n) := by
            have h9 := HV.out
            rw [hn9] at h9
            exact h9
          have HBit := Lib.hid r_bit
          clear HV HZb HGL
          generalize grayTo Z p = G at *
          obtain ⟨hge, hcel, -, -⟩ := HOp.out.at_ (by omega)
          have gp := hcel p (by omega)
          have hwp : IntKind.i64.wrap (((n : Nat) : Int) - 1) = (p : Nat) := by rw [w64 (by omega) (by omega)]; omega
          have hgp := HP62.out _ (HGb.out p (by omega))
          have hp0 : (0 : Int) ≤ (p : Int) := by omega
          have hp1 : (p : Int) < ((n : Nat) : Int) := by omega
          have hpn : p < n := by omega
          clear hcel hn9
          go_wp2_with fail
          go_loopw [12, 13] (fun tt q wr => ∃ (r t : Nat), r ≤ wd ∧ q = .int .i64 ((r : Int) - 1) ∧ tt = .int .i64 (t : Nat) ∧ Hid (t < 2 ^ 62 ∧ tW (G p) (r - 1) t = tW (G p) (wd - 1) 0) ∧ wr = wc) (fun _ q _ => (intOf q + 1).toNat)
          case atStart => exact ⟨wd, 0, Nat.le_refl _, rfl, rfl, ⟨by decide, rfl⟩, rfl⟩
          case round =>
            obtain ⟨r, t, hrw, rfl, rfl, HTT, rfl⟩ := hrel
            by_cases h2 : 2 ≤ r
            · obtain ⟨s, rfl⟩ : ∃ s, r = s + 1 := ⟨r - 1, by omega⟩
              rw [show (((s + 1 : Nat) : Int) - 1) = (s : Nat) by omega]
              have HZ2 : Hid (tW (G p) (s - 1) (bif bitN (G p) s == 1 then t ^^^ (2 ^ s - 1) else t) = tW (G p) (wd - 1) 0) := by
                obtain ⟨p9, rfl⟩ : ∃ p9, s = p9 + 1 := ⟨s - 1, by omega⟩
                exact HTT.out.2
              have hs1 : (1 : Int) ≤ (s : Nat) := by omega
              have hs2 : s ≤ 15 := by omega
              have htl := HTT.out.1
              have hlow := low_lt (q := s) (by omega)
              obtain ⟨hw1, hw2⟩ := wraps_low (s := s) (by omega)
              have hx := xor_i htl hlow
              have hxl := Lib.hid (Nat.xor_lt_two_pow htl hlow)
              clear HTT
              generalize 2 ^ s - 1 = low at *
              cases hb : bitN (G p) s == 1
              · rw [hb] at HZ2
                go_wp2_with (go_at_call 125; refine (HBit.out _ _ _ hgp (by omega)).mono ?_; rintro e w7 ⟨rfl, rfl⟩; rw [hb])
                exact ⟨⟨s, t, by omega, rfl, rfl, ⟨htl, HZ2.out⟩, trivial⟩, by simp [intOf]⟩
              · rw [hb] at HZ2
                go_wp2_with (go_at_call 125; refine (HBit.out _ _ _ hgp (by omega)).mono ?_; rintro e w7 ⟨rfl, rfl⟩; rw [hb])
                exact ⟨⟨s, t ^^^ low, by omega, rfl, rfl, ⟨hxl.out, HZ2.out⟩, trivial⟩, by simp [intOf]⟩
            · have hr1 : r - 1 = 0 := by omega
              have HT3 : Hid (t = tW (G p) (wd - 1) 0) := by have := HTT.out.2; rw [hr1] at this; exact this
              have htl := HTT.out.1
              rw [← HT3.out] at HV3
              have hq2 : ¬ (1 : Int) ≤ (r : Int) - 1 := by omega
              clear HTT HT3 hgp gp
              obtain ⟨wd2, hwd2⟩ : ∃ wd2, wd2 = wr := ⟨_, rfl⟩
              rw [← hwd2] at HOp HBp
              rw [← hwd2]
              clear hwd2
              have HG62 : Hid (∀ i, i < n → G i < 2 ^ 62) := fun i hi => HP62.out _ (HGb.out i (by omega))
              clear hwp hp0 hp1 hnp
              go_wp2_with fail
              go_loopw [14] (fun i wr => ∃ k : Nat, k ≤ n ∧ i = .int .i64 k ∧ Hid (OwnN wr w.heap.size g n cc (xorTo t G k)) ∧ Hid (Below w.heap.size w wr)) (fun i _ => n - (intOf i).toNat)
              case atStart => exact ⟨0, Nat.zero_le _, rfl, HOp, HBp⟩
              case round =>
                obtain ⟨k, hk, rfl, HOk, HBk⟩ := hrel
                by_cases hlt : k < n
                · have hxk : xorTo t G k k = G k := by rw [xorTo_at, if_neg (Nat.lt_irrefl k)]
                  obtain ⟨hge2, hcel, hfrz, hput⟩ := HOk.out.at_ (by omega)
                  have g1 := hcel k hlt
                  have gz := hfrz k
                  have HOq : Hid (OwnN (wr.setCell ⟨g, k, none⟩ (.int .i64 ((G k ^^^ t : Nat) : Int))) w.heap.size g n cc (xorTo t G (k + 1))) := by
                    have h9 := hput k (G k ^^^ t) hlt
                    show OwnN _ _ _ _ _ _
                    rw [xorTo, hxk]
                    exact h9
                  rw [hxk] at g1
                  have hx := xor_i (HG62.out k hlt) htl
                  have b2 : (k : Int) < (n : Int) := by omega
                  clear hcel hfrz hput hxk
                  generalize G k = gk at *
                  go_wp2_with fail
                  exact ⟨⟨k + 1, by omega, by go_num, HOq, HBk.out.setCell (p := ⟨g, k, none⟩) hge2 _⟩, by simp [intOf]; omega⟩
                · obtain rfl : k = n := by omega
                  have HO9 : Hid (OwnN wr w.heap.size g k cc HY) := by
                    show OwnN _ _ _ _ _ _
                    rw [HV3.out]
                    exact HOk.out
                  have HY62 : Hid (∀ i, i < k → HY i < 2 ^ 62) := fun i hi => by
                    rw [HV3.out, xorTo_at, if_pos hi]
                    exact Nat.xor_lt_two_pow (HG62.out i hi) htl
                  obtain ⟨wx, hwx⟩ : ∃ wx, wx = wr := ⟨_, rfl⟩
                  rw [← hwx] at HO9 HBk
                  rw [← hwx]
                  clear hwx HOk HV3 HG62 HGb HOp HBp
                  have hgx : g < wx.heap.size := (HO9.out.block rfl).2
                  go_wp2_with fail
                  go_loopw [15, 16, 17] (fun v q _ wr => ∃ m : Nat, m ≤ wd ∧ q = .int .i64 ((wd : Int) - 1 - (m : Int)) ∧ Hid (OwnI wr wx.heap.size v (m * k) fun j => ((bitL HY k wd j : Nat) : Int)) ∧ Hid (Below wx.heap.size wx wr)) (fun _ q _ _ => (intOf q + 1).toNat)
                  case atStart => exact ⟨0, Nat.zero_le _, by simp, by rw [Nat.zero_mul]; exact OwnI.nil _ _ _, Below.refl _ _⟩
                  case round =>
                    obtain ⟨m, hm, rfl, HOv, HBv⟩ := hrel
                    obtain ⟨P, pc, rfl, hpi⟩ := HOv.out.ints
                    by_cases hlt : m < wd
                    · obtain ⟨q, hq9⟩ : ∃ q : Nat, q + m + 1 = wd := ⟨wd - 1 - m, by omega⟩
                      have hqm : (wd : Int) - 1 - (m : Int) = (q : Int) := by omega
                      rw [hqm]
                      clear hpi
                      have hq0 : (0 : Int) ≤ (q : Int) := by omega
                      have Hq9 := Lib.hid hq9
                      clear hqm
                      obtain ⟨wo2, hwo2⟩ : ∃ wo2, wo2 = wr := ⟨_, rfl⟩
                      rw [← hwo2] at HOv HBv
                      rw [← hwo2]
                      clear hwo2
                      go_wp2_with fail
                      go_loopw [15, 17] (fun v i wr => ∃ t : Nat, t ≤ k ∧ i = .int .i64 t ∧ Hid (OwnI wr wx.heap.size v (m * k + t) fun j => ((bitL HY k wd j : Nat) : Int)) ∧ Hid (Below wx.heap.size wx wr)) (fun _ i _ => k - (intOf i).toNat)
                      case atStart => exact ⟨0, Nat.zero_le _, rfl, HOv, HBv⟩
                      case round =>
                        obtain ⟨u, hu, rfl, HOu, HBu⟩ := hrel
                        obtain ⟨P, pc, rfl, -⟩ := HOu.out.ints
                        by_cases hlt2 : u < k
                        · have hO : OwnN wr w.heap.size g k cc HY := OwnI.below HO9.out HBu.out
                          obtain ⟨_, hcel, -, -⟩ := hO.at_ (by omega)
                          have g1 := hcel u hlt2
                          have hd := div_i (HY u) q
                          have hx2 : HY u / 2 ^ q < 2 ^ 62 := Nat.lt_of_le_of_lt (Nat.div_le_self _ _) (HY62.out u hlt2)
                          have HBt : Hid (HY u / 2 ^ q % 2 = bitL HY k wd (m * k + u)) := by
                            have := Hq9.out
                            show _ = bitN (HY ((m * k + u) % k)) (wd - 1 - (m * k + u) / k)
                            rw [Nat.mul_comm m k, Nat.mul_add_mod, Nat.mod_eq_of_lt hlt2, Nat.mul_add_div (by omega), Nat.div_eq_of_lt hlt2, Nat.add_zero, show wd - 1 - m = q by omega]
                            rfl
                          rw [p62] at hx2
                          generalize HY u / 2 ^ q = yq at *
                          generalize HY u = yu at *
                          have hq1 : (q : Int) < 64 := by have := Hq9.out; omega
                          have hcnt : m * k + u ≤ 1000000 := by
                            have h9 : m * k ≤ 15 * 4 := Nat.mul_le_mul (by omega) (by omega)
                            omega
                          have hzb := HBu.out.size
                          have b2 : (u : Int) < (k : Int) := by omega
                          clear hO hcel
                          go_wp2_with (at_builtin; refine wpList_appI rfl _ _ rfl wr ((yq : Int) % 2) wx.heap.size (.slice P (m * k + u) pc) (m * k + u) _ rfl wr.heap.size rfl rfl HOu.out hcnt hzb ?_; intro v8 w8 ho8 hg8 hat8; obtain ⟨P8, q8, rfl, -⟩ := ho8.ints; have HO8 := Lib.hid ho8; have HB8 : Hid (Below wx.heap.size wx w8) := HBu.out.grown hg8 hzb (fun g hg => (HOu.out.block hg).1); clear ho8 hg8 hat8)
                          refine ⟨⟨u + 1, by omega, by go_num, HO8.out.congr fun j hj => ?_, HB8⟩, by simp [intOf]; omega⟩
                          unfold updZ
                          split
                          · rename_i h; rw [h, ← HBt.out]; omega
                          · rfl
                        · obtain rfl : u = k := by omega
                          have h9 := HOu.out
                          rw [← Nat.succ_mul] at h9
                          have HOx := Lib.hid h9
                          clear h9
                          go_wp2_with fail
                          exact ⟨⟨m + 1, by omega, by congr 1; have := Hq9.out; push_cast; omega, by rw [Nat.succ_mul] at HOx ⊢; exact HOx, HBu⟩, by simp [intOf]⟩
                    · obtain rfl : m = wd := by omega
                      have hq1 : ¬ (m : Int) - 1 - (m : Int) ≥ 0 := by omega
                      have HNw := Lib.hid (HOv.out.new)
                      have HB9 : Hid (Below w.heap.size w wr) := st HBk.out HBv.out
                      go_wp2_with fail
                      go_ret
                      obtain ⟨P9, c9, e9, i9, n9⟩ := HNw.out
                      exact ⟨⟨P9, c9, e9, i9, fun a ha => Nat.le_trans HBk.out.size (n9 a ha)⟩, HB9.out⟩
end Go.Proofs.YtogmbehomilalaaGreatDoor
end

/- A list of integers appended to one of the walk's own; lists of lists that grow. -/
section
namespace Go.Proofs.YtogmbehomilalaaGreatDoor
open Go Go.RowKit Go.Deep

theorem IntsAt.congrK {w : World} {A : Option Addr} {n : Nat} {f g : Nat → Int} (h : IntsAt w A n f) (hfg : ∀ k, k < n → f k = g k) : IntsAt w A n g := fun hn => by
  obtain ⟨b, o, e, u, c⟩ := h hn
  exact ⟨b, o, e, u, fun k hk => by rw [← hfg k hk]; exact c k hk⟩
/-- The slice v is the walk's own, from block B on, and holds n lists of integers, none of which lies in its block. -/
def OwnL (w : World) (B : Nat) (v : Value) (n : Nat) (ln : Nat → Nat) (f : Nat → Nat → Int) : Prop := ∃ xs, w.ownsRow B 35 1 v n xs ∧ ∀ k, k < n → ∃ P c, xs[k]? = some (.slice P (ln k) c) ∧ IntsAt w P (ln k) (f k) ∧ (ln k = 0 → P = none ∧ c = 0) ∧ ln k ≤ 1000000 ∧ ∀ a, P = some a → a.block < w.heap.size ∧ v.ownBlock ≠ some a.block
theorem OwnL.nil (w : World) (B : Nat) (ln : Nat → Nat) (f : Nat → Nat → Int) : OwnL w B (.slice none 0 0) 0 ln f := ⟨[], ⟨rfl, .inl ⟨rfl, rfl⟩⟩, fun k hk => absurd hk (by omega)⟩
theorem OwnL.sl {w : World} {B n : Nat} {v : Value} {ln : Nat → Nat} {f : Nat → Nat → Int} (h : OwnL w B v n ln f) : ∃ P c, v = .slice P n c := by
  obtain ⟨xs, ⟨hl, h1⟩, h2⟩ := h
  rcases h1 with ⟨rfl, rfl⟩ | ⟨g, cap, cur, rfl, _, hh, hcap, _, hs, ht⟩
  · exact ⟨none, 0, rfl⟩
  · exact ⟨_, _, rfl⟩
/-- The lists, one by one. -/
theorem OwnL.reads {w : World} {B n c : Nat} {A : Option Addr} {ln : Nat → Nat} {f : Nat → Nat → Int} (h : OwnL w B (.slice A n c) n ln f) (hn : 0 < n) : ∃ b, A = some ⟨b, 0, none⟩ ∧ B ≤ b ∧ b < w.heap.size ∧ ∀ k, k < n → ∃ P c, w.cell? ⟨b, k, none⟩ = some (.slice P (ln k) c) ∧ IntsAt w P (ln k) (f k) ∧ (ln k = 0 → P = none ∧ c = 0) ∧ ln k ≤ 1000000 ∧ ∀ a, P = some a → a.block < w.heap.size ∧ b ≠ a.block := by
  obtain ⟨xs, ⟨hl, h1⟩, h2⟩ := h
  rcases h1 with ⟨e, rfl⟩ | ⟨g, cap, cur, e, hB, hh, hcap, _, hs, ht⟩
  · injection e with _ e
    omega
  · injection e with e1 e2 e3
    subst e1 e3
    refine ⟨g, rfl, hB, (Array.getElem?_eq_some_iff.1 hh).1, fun k hk => ?_⟩
    obtain ⟨P, c9, e1, e2, e3, e4, e5⟩ := h2 k hk
    refine ⟨P, c9, ?_, e2, e3, e4, fun a ha => ⟨(e5 a ha).1, fun h9 => (e5 a ha).2 (by rw [h9]; rfl)⟩⟩
    rw [Nat.mul_one] at ht
    have h3 : cur.toList[k]? = some (.slice P (ln k) c9) := by
      rw [← List.getElem?_take_of_lt hk, ht]
      exact e1
    rw [Array.getElem?_toList] at h3
    simp [World.cell?, hh, h3]
theorem OwnL.lists {w : World} {B n c : Nat} {A : Option Addr} {ln : Nat → Nat} {f : Nat → Nat → Int} (h : OwnL w B (.slice A n c) n ln f) : ListsAt w A n ln f := fun hn => by
  obtain ⟨b, rfl, _, h1, h2⟩ := h.reads hn
  refine ⟨b, 0, rfl, h1, fun k hk => ?_⟩
  obtain ⟨P, c9, e1, e2, _, e4, _⟩ := h2 k hk
  exact ⟨P, c9, by rw [Nat.zero_add]; exact e1, e2, e4⟩
theorem OwnL.below {w w' : World} {B n : Nat} {v : Value} {ln : Nat → Nat} {f : Nat → Nat → Int} (h : OwnL w B v n ln f) (hb : Below w.heap.size w w') : OwnL w' B v n ln f := by
  obtain ⟨xs, h1, h2⟩ := h
  refine ⟨xs, ?_, fun k hk => ?_⟩
  · refine ⟨h1.1, ?_⟩
    rcases h1.2 with e | ⟨g, cap, cur, e, hB, hh, hr⟩
    · exact .inl e
    · exact .inr ⟨g, cap, cur, e, hB, (hb.block g (Array.getElem?_eq_some_iff.1 hh).1).trans hh, hr⟩
  · obtain ⟨P, c, e1, e2, e3, e4, e5⟩ := h2 k hk
    exact ⟨P, c, e1, e2.below hb, e3, e4, fun a ha => ⟨Nat.lt_of_lt_of_le (e5 a ha).1 hb.size, (e5 a ha).2⟩⟩
theorem OwnL.block {w : World} {B n : Nat} {v : Value} {ln : Nat → Nat} {f : Nat → Nat → Int} (h : OwnL w B v n ln f) {g : Nat} (hg : v.ownBlock = some g) : B ≤ g ∧ g < w.heap.size := by
  obtain ⟨xs, h1, _⟩ := h
  obtain ⟨a, cs, b⟩ := own_lt h1 g hg
  exact ⟨a, (Array.getElem?_eq_some_iff.1 b).1⟩
theorem OwnL.congr {w : World} {B n : Nat} {v : Value} {ln ln' : Nat → Nat} {f f' : Nat → Nat → Int} (h : OwnL w B v n ln f) (hl : ∀ k, k < n → ln k = ln' k) (hf : ∀ k, k < n → ∀ j, j < ln k → f k j = f' k j) : OwnL w B v n ln' f' := by
  obtain ⟨xs, h1, h2⟩ := h
  refine ⟨xs, h1, fun k hk => ?_⟩
  obtain ⟨P, c, e1, e2, e3, e4, e5⟩ := h2 k hk
  rw [← hl k hk]
  exact ⟨P, c, e1, e2.congrK (hf k hk), e3, e4, e5⟩
theorem info_intL : (Tryz.prog.info? 35).map (fun i => (i.zero, i.size, i.bytes)) = some (some (.slice none 0 0), 1, 24) := by kernel_rfl
def updNN (f : Nat → Nat) (k v j : Nat) : Nat := if j = k then v else f j
def updLL (f : Nat → Nat → Int) (k : Nat) (v : Nat → Int) (j : Nat) : Nat → Int := if j = k then v else f j
/-- One list more, behind a literal of one list. -/
theorem run_appL (w : World) (ty : TypeId) (B : Nat) (v : Value) (n : Nat) (ln : Nat → Nat) (f : Nat → Nat → Int) (hown : OwnL w B v n ln f) (b : Nat) (P : Option Addr) (m d : Nat) (g : Nat → Int) (hb : w.heap[b]? = some (.cells #[.slice P m d] 35 (0, 0))) (hi : IntsAt w P m g) (h0 : m = 0 → P = none ∧ d = 0) (hm : m ≤ 1000000) (hP : ∀ a, P = some a → a.block < w.heap.size ∧ v.ownBlock ≠ some a.block) (hn : n ≤ 1000000) (hB : B ≤ w.heap.size) :
    ∃ v' w', (Builtin.append_ #[48, 48] ty #[v, .slice (some ⟨b, 0, none⟩) 1 1]).run Tryz.prog w = .ok v' w' ∧ OwnL w' B v' (n + 1) (updNN ln n m) (updLL f n g) ∧ w.grownBy w' v.ownBlock ∧ (v'.ownBlock = v.ownBlock ∨ v'.ownBlock = some w.heap.size) := by
  obtain ⟨i, hI9, hz0, hz1, hz2⟩ := info_parts info_intL
  obtain ⟨xs, h1, h2⟩ := hown
  have hnews : ∀ j u, [Value.slice P m d][j]? = some u → w.cell? ((⟨b, 0, none⟩ : Addr).add j) = some u := by
    intro j u hj
    match j, hj with
    | 0, hj =>
      simp at hj
      subst hj
      simp [Addr.add, World.cell?, hb]
  obtain ⟨v', w', hr, g1, g2, _, g4⟩ := run_append_own_at (P := Tryz.prog) w B 48 ty 35 i (.slice none 0 0) 1 24 Tryz.underlying48 hI9 hz0 hz1 hz2 rfl (by decide) v n xs h1 ⟨b, 0, none⟩ 1 1 [.slice P m d] rfl hnews (fun u hu => by
    have h9 : u = .slice P m d := by simpa using hu
    subst h9; rfl) (by unfold maxLen; omega) (by omega) hB
  have far : ∀ Q : Option Addr, (∀ a, Q = some a → a.block < w.heap.size ∧ v.ownBlock ≠ some a.block) → ∀ a, Q = some a → a.block < w'.heap.size ∧ v'.ownBlock ≠ some a.block := fun Q hQ a ha => by
    obtain ⟨q1, q2⟩ := hQ a ha
    refine ⟨Nat.lt_of_lt_of_le q1 g2.size, fun h9 => ?_⟩
    rcases g4 with e | e
    · exact q2 (e ▸ h9)
    · rw [e] at h9
      injection h9 with h9
      omega
  have keep : ∀ (Q : Option Addr) (k : Nat) (h : Nat → Int), IntsAt w Q k h → (∀ a, Q = some a → a.block < w.heap.size ∧ v.ownBlock ≠ some a.block) → IntsAt w' Q k h := fun Q k h hQ hf hk => by
    obtain ⟨b9, o9, rfl, u1, u2⟩ := hQ hk
    obtain ⟨q1, q2⟩ := hf _ rfl
    refine ⟨b9, o9, rfl, Nat.lt_of_lt_of_le u1 g2.size, fun j hj => ?_⟩
    rw [cell_blk (g2.block b9 u1 (fun h9 => q2 h9.symm))]
    exact u2 j hj
  refine ⟨v', w', hr, ⟨_, g1, fun k hk => ?_⟩, g2, g4⟩
  have hl : xs.length = n := by rw [h1.1, Nat.mul_one]
  by_cases e : k = n
  · subst e
    have e1 : updNN ln k m k = m := if_pos rfl
    have e2 : updLL f k g k = g := if_pos rfl
    rw [e1, e2]
    refine ⟨P, d, ?_, keep _ _ _ hi hP, h0, hm, far _ hP⟩
    rw [List.getElem?_append_right (by omega), hl, Nat.sub_self]
    rfl
  · obtain ⟨P9, c9, e1, e2, e3, e4, e5⟩ := h2 k (by omega)
    have f1 : updNN ln n m k = ln k := if_neg e
    have f2 : updLL f n g k = f k := if_neg e
    rw [f1, f2]
    refine ⟨P9, c9, ?_, keep _ _ _ e2 e5, e3, e4, far _ e5⟩
    rw [List.getElem?_append_left (by omega)]
    exact e1
end Go.Proofs.YtogmbehomilalaaGreatDoor
end

/- An abstract frame as a list of its slots. -/
section
namespace Go.Proofs.YtogmbehomilalaaGreatDoor
open Go Go.RowKit Go.Deep

theorem actlitf (n : Nat) (a : Act) (h : a.tmps.size = n) (hd : a.defers = []) : ∃ f : Nat → Value, (∀ t, a.tmps[t]?.getD undef = f t) ∧ a = ⟨((List.range n).map f).toArray, []⟩ := by
  refine ⟨fun t => a.tmps[t]?.getD undef, fun t => rfl, ?_⟩
  obtain ⟨tm, df⟩ := a
  have h' : tm.size = n := h
  have hd' : df = [] := hd
  subst hd'
  have e : tm = ((List.range n).map fun t => tm[t]?.getD undef).toArray := by
    apply Array.ext
    · simpa using h'
    · intro i h1 h2
      simp [h1]
  exact congrArg (fun x => (⟨x, []⟩ : Act)) e
end Go.Proofs.YtogmbehomilalaaGreatDoor
end

/- Operations on boxes, dimensions and integers in regions whose order is open. -/
section
namespace Go.Proofs.YtogmbehomilalaaGreatDoor
open Go Go.RowKit Go.Deep
section
variable {ops : Array Oper} {Q : Exit → Act → World → Prop} {K : Act → World → Prop} {a : Act} {w : World}
theorem op_ldI {o : Oper} {d t b off : Nat} {v : Value} (ho : o.op = .load 3 (.tmp t)) (hd : o.dst = some d) (hs : slot a t = .pointer (some ⟨b, off, none⟩)) (hc : w.cell? ⟨b, off, none⟩ = some v) (h : K (putSlot a d v) w) : o.wp Tryz.prog a w K Q := by
  obtain ⟨op, dst, ty, pos, after, guard⟩ := o
  dsimp only at ho hd
  subst ho hd
  have hs' : a.tmps[t]?.getD undef = .pointer (some ⟨b, off, none⟩) := hs
  unfold Oper.wp
  go_simp
  exact h
theorem op_bsI {o : Oper} {d t : Nat} {x : Int} (ho : o.op = .buildSlice 35 1 #[(0, .tmp t)]) (hd : o.dst = some d) (hs : slot a t = .int .i64 x) (h : K (putSlot a d (.slice (some ⟨w.heap.size, 0, none⟩) 1 1)) (w.alloc (.cells #[.int .i64 x] 3))) : o.wp Tryz.prog a w K Q := by
  obtain ⟨op, dst, ty, pos, after, guard⟩ := o
  dsimp only at ho hd
  subst ho hd
  have hs' : a.tmps[t]?.getD undef = .int .i64 x := hs
  unfold Oper.wp
  go_simp
  exact h
end
/-- A literal of one integer, in a block from B on. -/
def OneI (x : Int) (B : Nat) : Value → World → Prop := fun v W => ∃ b, v = .slice (some ⟨b, 0, none⟩) 1 1 ∧ B ≤ b ∧ W.heap[b]? = some (.cells #[.int .i64 x] 3 (0, 0))
theorem oneI_mono (x : Int) (B : Nat) : Mono (OneI x B) := by
  rintro v w w' ⟨b, h1, h2, h3⟩ hb; exact ⟨b, h1, h2, (hb.block b (Array.getElem?_eq_some_iff.1 h3).1).trans h3⟩
/-- One number more, behind a literal of one number at b: the list lies where it lay, or in a new block. -/
theorem wpList_appJ {ops : Array Oper} {rest : List Oper} {o : Oper} {a : Act} {Q : Exit → Act → World → Prop} (hgd : o.guard = none) (s x : Operand)
    (ho : o.op = .call { callee := .builtin .append, args := #[s, x], argTypes := #[35, 35] })
    (W : World) (d : Int) (B : Nat) (v : Value) (n : Nat) (f : Nat → Int) (hs : a.eval s = v) (b : Nat) (hx : a.eval x = .slice (some ⟨b, 0, none⟩) 1 1) (hb : W.heap[b]? = some (.cells #[.int .i64 d] 3 (0, 0)))
    (hown : OwnI W B v n f) (hn : n ≤ 1000000) (hB : B ≤ W.heap.size)
    (h : ∀ v' w', OwnI w' B v' (n + 1) (updZ f n d) → W.grownBy w' v.ownBlock → (v'.ownBlock = v.ownBlock ∨ ∃ g, v'.ownBlock = some g ∧ W.heap.size ≤ g) → wpList Tryz.prog ops Q rest (a.put o.dst v') w') : wpList Tryz.prog ops Q (o :: rest) a W := by
  obtain ⟨xs, h1, h2⟩ := hown
  obtain ⟨i0, hi0, hz0, hz1, hz2⟩ := info_parts info_int
  have hnew : ∀ j u, [Value.int .i64 d][j]? = some u → W.cell? ((⟨b, 0, none⟩ : Addr).add j) = some u := by
    intro j u hu
    have hj : j = 0 := by
      rcases j with _ | j
      · rfl
      · simp at hu
    subst hj
    have hu' : u = .int .i64 d := by simpa using hu.symm
    subst hu'
    simp [World.cell?, hb, Addr.add]
  refine wpList_append_own_at _ hgd s x 35 ho B 3 i0 (.int .i64 0) 1 8 Tryz.underlying35 hi0 hz0 hz1 hz2 rfl Nat.zero_lt_one v n xs hs h1 ⟨b, 0, none⟩ 1 1 [.int .i64 d] hx rfl hnew
    (fun u hu => by have h9 : u = .int .i64 d := by simpa using hu
                    subst h9; rfl) (by unfold maxLen; omega) (by omega) hB ?_
  intro v' w' g1 g2 _ g4
  refine h v' w' ⟨xs ++ [.int .i64 d], g1, fun k hk => ?_⟩ g2 (g4.imp id fun h9 => ⟨_, h9, Nat.le_refl _⟩)
  have hl : xs.length = n := by rw [h1.1, Nat.mul_one]
  unfold updZ
  by_cases e : k = n
  · subst e
    rw [if_pos rfl, List.getElem?_append_right (by omega), hl, Nat.sub_self]
    rfl
  · rw [if_neg e, List.getElem?_append_left (by omega)]
    exact h2 k (by omega)
end Go.Proofs.YtogmbehomilalaaGreatDoor
end

/- Operations of a region: an element of a list of integers, a quotient. -/
section
namespace Go.Proofs.YtogmbehomilalaaGreatDoor
open Go Go.RowKit Go.Deep

theorem old_end {ops : Array Oper} {a0 a : Act} {W0 w : World} {T : Nat → Value → World → Prop} {listed : Array Bool} (HL : Held ops a0 W0 T listed a w) {l : List (Option Nat)} (h : ops.toList.map (·.dst) = l) (t n : Nat) (ht : (l.take n).contains (some t) = false) (hn : l.length = n + 1) (hT : ∀ v w, ¬ T n v w) : ∀ i o, ops[i]? = some o → o.dst = some t → listed.getD i false = false := by
  intro i o e hd
  cases hb : listed.getD i false
  · rfl
  exfalso
  have hi : l[i]? = some (some t) := by rw [← h, List.getElem?_map, Array.getElem?_toList, e]; simp [hd]
  by_cases hin : i = n
  · subst hin
    exact hT _ _ (HL.got i o t e hd hb)
  · have hlt : i < l.length := (List.getElem?_eq_some_iff.1 hi).1
    have hm : some t ∈ l.take n := List.mem_of_getElem? (i := i) (by rw [List.getElem?_take_of_lt (by omega)]; exact hi)
    rw [← List.elem_iff] at hm
    rw [show (l.take n).elem (some t) = (l.take n).contains (some t) from rfl, ht] at hm
    cases hm
section
variable {ops : Array Oper} {Q : Exit → Act → World → Prop} {K : Act → World → Prop} {a : Act} {w : World}
set_option maxRecDepth 100000 in
theorem op_ixI {o : Oper} {d t i b off n c k : Nat} (ho : o.op = .indexAddr 35 (.tmp t) (.tmp i)) (hd : o.dst = some d) (hs : slot a t = .slice (some ⟨b, off, none⟩) n c) (hi : slot a i = .int .i64 (k : Int)) (hk : k < n) (h : K (putSlot a d (.pointer (some ⟨b, off + k, none⟩))) w) : o.wp Tryz.prog a w K Q := by
  obtain ⟨op, dst, ty, pos, after, guard⟩ := o
  dsimp only at ho hd
  subst ho hd
  have hs' : a.tmps[t]?.getD undef = .slice (some ⟨b, off, none⟩) n c := hs
  have hi' : a.tmps[i]?.getD undef = .int .i64 (k : Int) := hi
  have h0 : (0 : Int) ≤ (k : Int) := by omega
  have h1 : (k : Int) < (n : Int) := by omega
  unfold Oper.wp
  go_simp
  exact h
set_option maxRecDepth 100000 in
theorem op_qu {o : Oper} {d t t2 : Nat} {x y : Int} (ho : o.op = .binOp .quo 3 (.tmp t) (.tmp t2) 3) (hd : o.dst = some d) (hs : slot a t = .int .i64 x) (hs2 : slot a t2 = .int .i64 y) (hx : 0 ≤ x ∧ x ≤ 4294967296) (hy : 1 ≤ y ∧ y ≤ 64) (h : K (putSlot a d (.int .i64 (x / y))) w) : o.wp Tryz.prog a w K Q := by
  obtain ⟨op, dst, ty, pos, after, guard⟩ := o
  dsimp only at ho hd
  subst ho hd
  have hs' : a.tmps[t]?.getD undef = .int .i64 x := hs
  have hs2' : a.tmps[t2]?.getD undef = .int .i64 y := hs2
  have h1 : x.tdiv y = x / y := Int.tdiv_eq_ediv_of_nonneg hx.1
  have h2 : x / y ≤ x := Int.ediv_le_self _ hx.1
  have h3 : 0 ≤ x / y := Int.ediv_nonneg hx.1 (by omega)
  have hw : IntKind.i64.wrap (x / y) = x / y := w64 (by omega) (by omega)
  have hy0 : (y == 0) = false := by rw [beq_eq_false_iff_ne]; omega
  have hy1 : ¬ y = 0 := by omega
  clear h2 h3
  unfold Oper.wp
  go_simp
  exact h
theorem op_fT {o : Oper} {d t b : Nat} (ho : o.op = .fieldAddr 43 (.tmp t) 3) (hd : o.dst = some d) (hs : slot a t = .pointer (some ⟨b, 0, none⟩)) (h : K (putSlot a d (.pointer (some ⟨b, 3, none⟩))) w) : o.wp Tryz.prog a w K Q := by
  obtain ⟨op, dst, ty, pos, after, guard⟩ := o
  dsimp only at ho hd
  subst ho hd
  have hs' : a.tmps[t]?.getD undef = .pointer (some ⟨b, 0, none⟩) := hs
  unfold Oper.wp
  go_simp
  exact h
end
end Go.Proofs.YtogmbehomilalaaGreatDoor
end

/- The reference's orders and layouts. -/
section
namespace Go.Proofs.YtogmbehomilalaaGreatDoor
open Go Go.RowKit Go.Deep

def tileB (ord tile : Int) : Bool := if ord = 3 then decide (1 ≤ tile) && decide (tile ≤ 64) else tile == 0
theorem lay_row (w : World) (S O : Option Addr) (s sc o oc : Nat) (ord tile form codec : Int) : Below w.heap.size w (w.alloc (.cells #[.slice S s sc, .slice O o oc, .int .i64 ord, .int .i64 tile, .int .i64 form, .int .i64 codec] 43)) := (Below.refl _ _).alloc (Nat.le_refl _) _
set_option maxRecDepth 100000 in
set_option maxHeartbeats 4000000 in
theorem r_tile (S O : Option Addr) (s sc o oc : Nat) (ord tile form codec : Int) (w : World) :
    Calls Tryz.prog 97 #[LayV S s sc O o oc ord tile form codec] w fun e w' => e = .returned (.bool (tileB ord tile)) ∧ Below w.heap.size w w' := by
  have KB := Lib.hid (lay_box w S O s sc o oc ord tile form codec)
  have HB := Lib.hid (lay_row w S O s sc o oc ord tile form codec)
  obtain ⟨tb, htb⟩ : ∃ tb, tileB ord tile = tb := ⟨_, rfl⟩
  rw [htb]
  have HT := Lib.hid htb
  clear htb
  go_enter Tryz.func97, Tryz.ntmps97
  go_wp2_with fail
  generalize w.alloc (.cells #[.slice S s sc, .slice O o oc, .int .i64 ord, .int .i64 tile, .int .i64 form, .int .i64 codec] 43) = Wa at *
  obtain ⟨l0, l1, l2, l3, l4, l5⟩ := KB.out Wa (Below.refl _ _)
  go_wp2
  all_goals
    go_ret
    refine ⟨congrArg Ending.returned (congrArg Value.bool ?_), HB.out⟩
    rw [← HT.out]
    unfold tileB
    clear HT KB HB
    first | (simp_all; done) | (simp_all; omega)
theorem ord_tileB (ord tile : Int) : (decide (1 ≤ ord) && (decide (ord ≤ 3) && tileB ord tile)) = ordB ord tile := by
  unfold tileB ordB
  by_cases h12 : ord = 1 ∨ ord = 2
  · rw [if_pos h12, if_neg (by omega), decide_eq_true (by omega), decide_eq_true (by omega)]
    simp
  · rw [if_neg h12]
    by_cases h3 : ord = 3
    · rw [if_pos h3, if_pos h3, decide_eq_true (by omega), decide_eq_true (by omega)]
      simp
    · rw [if_neg h3, if_neg h3]
      by_cases h1 : 1 ≤ ord
      · rw [decide_eq_false (show ¬ ord ≤ 3 by omega)]; simp
      · rw [decide_eq_false h1]; simp
set_option maxRecDepth 100000 in
set_option maxHeartbeats 4000000 in
theorem r_order (S O : Option Addr) (s sc o oc : Nat) (ord tile form codec : Int) (w : World) :
    Calls Tryz.prog 51 #[LayV S s sc O o oc ord tile form codec] w fun e w' => e = .returned (.bool (ordB ord tile)) ∧ Below w.heap.size w w' := by
  have KB := Lib.hid (lay_box w S O s sc o oc ord tile form codec)
  have HB := Lib.hid (lay_row w S O s sc o oc ord tile form codec)
  have HTi := Lib.hid (fun W => r_tile S O s sc o oc ord tile form codec W)
  have HO := Lib.hid (ord_tileB ord tile)
  generalize ordB ord tile = ob at *
  generalize tileB ord tile = tb at *
  go_enter Tryz.func51, Tryz.ntmps51
  go_wp2_with fail
  generalize w.alloc (.cells #[.slice S s sc, .slice O o oc, .int .i64 ord, .int .i64 tile, .int .i64 form, .int .i64 codec] 43) = Wa at *
  obtain ⟨l0, l1, l2, l3, l4, l5⟩ := KB.out Wa (Below.refl _ _)
  go_wp2_with (go_at_call 97; refine (HTi.out _).mono ?_; rintro e w1 ⟨rfl, hb1⟩; have HB' : Hid (Below w.heap.size w w1) := st HB.out hb1)
  all_goals
    go_ret
    refine ⟨congrArg Ending.returned (congrArg Value.bool ?_), by first | exact HB'.out | exact HB.out⟩
    rw [← HO.out]
    clear HO HTi KB
    first | (simp_all; done) | (simp_all; omega)
end Go.Proofs.YtogmbehomilalaaGreatDoor
end
