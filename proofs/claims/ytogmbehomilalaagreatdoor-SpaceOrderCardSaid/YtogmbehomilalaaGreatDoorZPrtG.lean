/- The decimal digits of a natural number of any size, and the string of a rational number: what each call returns, given the library's table of powers of ten. -/
import Derived.Test.YtogmbehomilalaaGreatDoorZMathT
import Derived.Test.YtogmbehomilalaaGreatDoorZDif
import Derived.Lib.Replace
import Derived.Lib.CountLaws
import Derived.Test.YtogmbehomilalaaGreatDoorZMathD
import Derived.Test.YtogmbehomilalaaGreatDoorZDo
import Derived.Test.YtogmbehomilalaaGreatDoorShelf

/- The decimal digits of a natural number of any size, and the string of a rational number: what each call returns, given the library's table of powers of ten. -/
section
namespace Go.Proofs.YtogmbehomilalaaGreatDoor
open Go Go.RowKit Go.Deep

set_option maxHeartbeats 1000000 in
theorem c_divideInPlace2 (w : World) (b n cap N x y : Nat) (F : Nat → Value) (hrow : w.rowIs b 89 N F) (hF : ∀ j, j < n → F j = U (dig x j)) (hN : n ≤ N) (hn : n ≤ 1000000000) (hx : x < W64 ^ n) (hy : 0 < y) (HD : DivAll x y n) :
    Calls Tryz.prog 187 #[.slice (some ⟨b, 0, none⟩) n cap, U y] w fun e w' => ∃ F', e = .returned (U (x % y)) ∧ w'.rowIs b 89 N F' ∧ (∀ j, j < n → F' j = U (dig (x / y) j)) ∧ Below b w w' ∧ w'.heap.size = w.heap.size ∧ Apart b w w' := by
  have HX := Lib.hid hx
  have HDD := Lib.hid HD
  have HF0 := Lib.hid hF
  clear hx HD hF
  go_enter Tryz.func187, Tryz.ntmps187
  go_wp2
  go_loopw [5, 6] (fun r i wr => ∃ (k : Nat) (G : Nat → Value), k ≤ n ∧ i = .int .i64 ((k : Int) - 1) ∧ r = U (x / W64 ^ k % y) ∧ wr.rowIs b 89 N G ∧ Hid (∀ j, j < k → G j = U (dig x j)) ∧ Hid (∀ j, k ≤ j → j < n → G j = U (dig (x / y) j)) ∧ Below b w wr ∧ Hid (wr.heap.size = w.heap.size ∧ Apart b w wr)) (fun _ i _ => (intOf i + 1).toNat)
  case atStart =>
    exact ⟨n, F, Nat.le_refl _, rfl, by rw [Nat.div_eq_of_lt HX.out, Nat.zero_mod]; rfl, hrow, HF0.out, fun j h1 h2 => by omega, Below.refl _ _, rfl, Apart.refl _ _⟩
  case round =>
    obtain ⟨k, G, hk, rfl, rfl, hr, HG, HQ, hb, HZ⟩ := hrel
    by_cases h0 : k = 0
    · subst h0
      go_wp2
      go_ret
      exact ⟨G, by rw [Nat.pow_zero, Nat.div_one]; rfl, hr, fun j hj => HQ.out j (Nat.zero_le _) hj, hb, HZ.out⟩
    · obtain ⟨j, rfl⟩ : ∃ j, k = j + 1 := ⟨k - 1, by omega⟩
      rw [show ((j + 1 : Nat) : Int) - 1 = (j : Int) by omega]
      have hS : wr.cell? ⟨b, j, none⟩ = some (U (dig x j)) := by rw [hr.cell (i := j) (by omega), HG.out j (by omega)]
      have hZ := hr.frozen j
      have HC := Lib.hid (HDD.out j (by omega))
      have HE := Lib.hid (div_step_in x y j hy)
      generalize x / W64 ^ (j + 1) % y = hi at *
      go_wp2_with fail
      refine (HC.out _).mono ?_
      rintro e w' ⟨rfl, nq, rfl⟩
      rw [HE.out.1, HE.out.2]
      have hr2 : (wr.drewN nq).rowIs b 89 N G := hr
      go_wp2
      go_roundw
      case rel =>
        refine ⟨j, updV G j (U (dig (x / y) j)), by omega, rfl, rfl, (hr2.set j _).congr fun i _ => rfl, ?_, ?_, (hb.trans (Below.drewN_ (Below.refl _ _) nq)).setCell (Nat.le_refl b) _, ?_⟩
        · intro i hi
          show (if i = j then _ else _) = _
          rw [if_neg (by omega)]; exact HG.out i (by omega)
        · intro i h1 h2
          show (if i = j then _ else _) = _
          by_cases e : i = j
          · subst e; rw [if_pos rfl]
          · rw [if_neg e]; exact HQ.out i (by omega) h2
        · exact ⟨by rw [nblk_setCell]; exact HZ.out.1, HZ.out.2.setCell _ _⟩
      case measure => simp [intOf]

theorem own_apart {w w' : World} {b : Nat} {e : TypeId} {size : Nat} {v : Value} {n : Nat} {xs : List Value} (h : w.ownsRow (b + 1) e size v n xs) (ha : Apart b w w') : w'.ownsRow (b + 1) e size v n xs := by
  refine ⟨h.1, ?_⟩
  rcases h.2 with h1 | ⟨g, cap, cur, h1, h2, h3, h4⟩
  · exact .inl h1
  · exact .inr ⟨g, cap, cur, h1, h2, (ha g (by omega)).trans h3, h4⟩
theorem own_below {w w' : World} {b : Nat} {e : TypeId} {size : Nat} {v : Value} {n : Nat} {xs : List Value} (h : w.ownsRow b e size v n xs) (hb : Below w.heap.size w w') : w'.ownsRow b e size v n xs := by
  refine ⟨h.1, ?_⟩
  rcases h.2 with h1 | ⟨g, cap, cur, h1, h2, h3, h4⟩
  · exact .inl h1
  · exact .inr ⟨g, cap, cur, h1, h2, (hb.block g (Array.getElem?_eq_some_iff.1 h3).1).trans h3, h4⟩
theorem one_news (W : World) (s : ByteArray) : ∀ (j : Nat) (u : Value), [Value.string s][j]? = some u → (W.alloc (.cells #[.string s] 9)).cell? ((⟨W.heap.size, 0, none⟩ : Addr).add j) = some u := by
  intro j u hu
  have hj : j = 0 := by
    rcases j with _ | j
    · rfl
    · simp at hu
  subst hj
  have hu' : u = .string s := by simpa using hu.symm
  subst hu'
  exact (World.rowIs_alloc W #[.string s] 9 (fun _ => .string s) (fun i hi => by
    have h9 : i = 0 := by simpa using hi
    subst h9
    rfl)).cell (i := 0) (by simp)
theorem one_cell (s : ByteArray) : ∀ u ∈ [Value.string s], u.oneCell' = true := by
  intro u hu
  have hu' : u = .string s := by simpa using hu
  subst hu'; rfl
theorem flat_drop_le (l : List (List UInt8)) (k : Nat) : ((l.drop k).reverse.flatten).length ≤ (l.reverse.flatten).length := by
  have e : l.reverse.flatten = (l.drop k).reverse.flatten ++ (l.take k).reverse.flatten := by
    rw [← List.flatten_append, ← List.reverse_append, List.take_append_drop]
  rw [e, List.length_append]
  omega
def strOf (l : List UInt8) : Value := .string ⟨l.toArray⟩
def lenV : Value → Nat
  | .slice _ n _ => n
  | _ => 0

set_option maxRecDepth 100000 in
set_option maxHeartbeats 8000000 in
theorem g_decimal_pos (w : World) (v : Value) (x : Nat) (h : NatAt w v x) (hn : nw x ≤ 1000000) (h0 : 0 < x) (htab : Tab w) :
    Calls Tryz.prog 167 #[v] w fun e w' => e = .returned (.string ⟨(Lib.decDigits x).toArray⟩) ∧ Below w.heap.size w w' := by
  have hnw : 0 < nw x := (nw_pos x).2 h0
  obtain ⟨A, c, rfl, h1, h2, h3⟩ := h
  have HCl := Lib.hid (c_Clone w _ A (nw x) c (dig x) h3 (Nat.le_refl _) hnw (by omega))
  have hlen : (Lib.decDigits x).length ≤ 20000000 := Nat.le_trans (dec_len_words x (nw x) (lt_nw x) hnw) (by omega)
  have HLEN := Lib.hid hlen
  have HT := Lib.hid htab
  have HNX := Lib.hid hn
  have hl0 : ((nw x : Int) == 0) = false := by rw [beq_eq_false_iff_ne]; omega
  obtain ⟨i0, hi0, hz0, hz1, hz2⟩ := info_parts info_str
  have HI := Lib.hid hi0
  have HZ0 := Lib.hid hz0
  have HZ1 := Lib.hid hz1
  have HZ2 := Lib.hid hz2
  clear h1 h2 h3 hi0 hz0 hz1 hz2 htab hlen
  generalize hmx : nw x = mx at *
  have HMX := Lib.hid hmx
  clear hmx
  go_enter Tryz.func167, Tryz.ntmps167
  go_wp2_with fail
  refine HCl.out.mono ?_
  rintro e w1 ⟨b, cap, F, rfl, hb, hcap, hcap2, hrow, hF, hbel⟩
  have HF := Lib.hid hF
  clear hF HCl
  go_wp2_with fail
  go_loopw [3, 4, 5] (fun lv pv _ wr => ∃ (y : Nat) (G : Nat → Value) (parts : List (List UInt8)), lv = .slice (some ⟨b, 0, none⟩) (nw y) cap ∧ wr.rowIs b 89 cap G ∧ Hid (∀ j, j < nw y → G j = U (dig y j)) ∧ wr.ownsRow (b + 1) 9 1 pv parts.length (parts.map strOf) ∧
    Hid ((∀ l ∈ parts, l ≠ []) ∧ nw y ≤ mx ∧ ((y = 0 ∧ parts.reverse.flatten = Lib.decDigits x) ∨ (0 < y ∧ Lib.decDigits x = Lib.decDigits y ++ parts.reverse.flatten)) ∧ parts.length = lenV pv) ∧ Below w.heap.size w wr) (fun _ pv _ _ => (Lib.decDigits x).length + 1 - lenV pv)
  case atStart =>
    exact ⟨x, F, [], by rw [HMX.out], hrow, by rw [HMX.out]; exact HF.out, World.ownsRow_nil _ _ _ _, ⟨by simp, by rw [HMX.out]; exact Nat.le_refl _, .inr ⟨h0, by simp⟩, rfl⟩, hbel⟩
  case round =>
    obtain ⟨y, G, parts, rfl, hG, HG, hown, HP, hbw⟩ := hrel
    rcases Nat.eq_zero_or_pos y with hy | hy
    · subst hy
      generalize hwo : wr = wo at *
      clear hwo
      have hfl : parts.reverse.flatten = Lib.decDigits x := by
        rcases HP.out.2.2.1 with ⟨_, h9⟩ | ⟨h9, _⟩
        · exact h9
        · omega
      have HFL := Lib.hid hfl
      have hpl : parts.length ≤ 20000000 := by
        have h8 := flat_len parts HP.out.1
        rw [hfl] at h8
        exact Nat.le_trans h8 HLEN.out
      rw [nw_zero]
      obtain ⟨gp, capp, rfl⟩ : ∃ gp capp, u4 = .slice (some ⟨gp, 0, none⟩) parts.length capp := by
        rcases hown.2 with ⟨_, h9⟩ | ⟨g9, cap9, cur9, h9, _⟩
        · have : parts = [] := List.length_eq_zero_iff.1 h9
          subst this
          exact absurd hfl.symm (by simpa using dec_ne x)
        · exact ⟨g9, cap9, h9⟩
      have hgp : gp < wo.heap.size := (hown.lt gp rfl).2
      have HCell : Hid (∀ k (hk : k < parts.length), wo.cell? ⟨gp, k, none⟩ = some (strOf parts[k])) := by
        intro k hk
        rw [hown.cellAt k (by omega)]
        simp [hk]
      have hIB := Lib.hid (Lib.fresh_isBuilder 113 5 wo)
      have hBB : Below wo.heap.size wo (wo.alloc (.cells #[.pointer none, .slice none 0 0] 113)) := (Below.refl _ _).alloc (Nat.le_refl _) _
      have HBW := Lib.hid hbw
      clear hfl hG HG hown hbw
      go_wp2_with fail
      go_loopw [7] (fun i wq => ∃ k : Nat, k ≤ parts.length ∧ i = .int .i64 ((k : Int) - 1) ∧ Hid (Lib.IsBuilder 113 5 wo.heap.size wo.heap.size (Lib.byteCells (parts.drop k).reverse.flatten) wq) ∧ Hid (Below wo.heap.size wo wq)) (fun i _ => (intOf i + 1).toNat)
      case atStart => exact ⟨parts.length, Nat.le_refl _, rfl, by rw [List.drop_length]; exact hIB.out, hBB⟩
      case round =>
        obtain ⟨k, hk, rfl, HIB, HQ⟩ := hrel
        rcases k with _ | k
        · rw [List.drop_zero, HFL.out] at HIB
          go_wp2_with fail
          refine (Tryz.Builder_String_any wo.heap.size wo.heap.size (Lib.decDigits x) _ HIB.out HQ.out.size).mono ?_
          rintro e w5 ⟨rfl, hb5⟩
          have HB5 : Hid (Below w.heap.size w w5) := HBW.out.trans ((HQ.out.trans hb5).mono HBW.out.size)
          clear hb5
          go_wp2
          go_ret
          exact ⟨rfl, HB5.out⟩
        · rw [show ((k + 1 : Nat) : Int) - 1 = (k : Int) by omega]
          have hce := (HQ.out.cell (p := ⟨gp, k, none⟩) hgp).trans (HCell.out k hk)
          have hfd := flat_drop parts k hk
          have hle := flat_drop_le parts k
          have hdl : ((parts.drop (k + 1)).reverse.flatten).length + (parts[k]).length ≤ 20000000 := by
            rw [← List.length_append, ← hfd]
            exact Nat.le_trans hle (by rw [HFL.out]; exact HLEN.out)
          have HFD := Lib.hid hfd
          generalize parts[k] = pk at *
          have HWS := Lib.hid (b_WriteString wo.heap.size wo.heap.size _ ⟨pk.toArray⟩ _ HIB.out (by rw [Lib.byteCells_length]; show _ + pk.toArray.size ≤ _; rw [List.size_toArray]; omega) HQ.out.size)
          clear hfd hle hdl
          unfold strOf at hce
          go_wp2_with fail
          refine HWS.out.mono ?_
          rintro e w6 ⟨rfl, hba, hb6⟩
          have HNew : Hid (Lib.IsBuilder 113 5 wo.heap.size wo.heap.size (Lib.byteCells (parts.drop k).reverse.flatten) w6) := by
            rw [HFD.out]
            refine .inr ?_
            have : Lib.byteCells ((parts.drop (k + 1)).reverse.flatten ++ pk) = Lib.byteCells (parts.drop (k + 1)).reverse.flatten ++ Lib.strCells ⟨pk.toArray⟩ := by
              unfold Lib.byteCells Lib.strCells
              rw [List.map_append]
            rw [this]; exact hba
          have HQ6 : Hid (Below wo.heap.size wo w6) := HQ.out.trans hb6
          clear hba hb6 HWS
          go_wp2
          exact ⟨⟨k, by omega, rfl, HNew.out, HQ6.out⟩, by simp [intOf]⟩
    · have HPL : Hid (parts.length + 1 ≤ (Lib.decDigits x).length ∧ (Lib.decDigits x).length ≤ 20000000) := by
        refine ⟨?_, HLEN.out⟩
        rcases HP.out.2.2.1 with ⟨h9, _⟩ | ⟨_, h9⟩
        · omega
        · have h8 := flat_len parts HP.out.1
          have h7 := List.length_pos_iff.2 (dec_ne y)
          rw [h9, List.length_append]
          omega
      have hny : 0 < nw y := (nw_pos y).2 hy
      have hly : (0 : Int) < (nw y : Int) := by omega
      have hnyc : nw y ≤ cap := Nat.le_trans HP.out.2.1 hcap
      have HNY : Hid (nw y ≤ 1000000) := Nat.le_trans HP.out.2.1 HNX.out
      have HDI := Lib.hid (c_divideInPlace2 wr b (nw y) cap cap y 10000000000000000000 G hG HG.out hnyc (by have := HNY.out; omega) (lt_nw y) (by omega) (divAll_word y 10000000000000000000 (nw y) (by omega) (by decide)))
      have HYM : Hid (nw (y / 10000000000000000000) ≤ nw y) := nw_mono (Nat.div_le_self _ _)
      generalize hmy : nw y = my at *
      have HMY := Lib.hid hmy
      clear hmy hG
      go_wp2_with fail
      refine HDI.out.mono ?_
      rintro e w2 ⟨G', rfl, hG', hGd, hb2, hsz, hap⟩
      have hT2 : Tab w2 := HT.out.below (hbw.trans (hb2.mono hb))
      have hown2 := own_apart hown hap
      clear HDI hown
      go_wp2_with fail
      refine (c_FormatUint (y % 10000000000000000000) w2 (Nat.lt_trans (Nat.mod_lt _ (by omega)) (by decide)) hT2).mono ?_
      rintro e w3 ⟨rfl, hb3⟩
      have hG3 := row_below hb3 hG'.lt hG'
      have hown3 := own_below hown2 hb3
      have HGD := Lib.hid hGd
      have hB3 : Below w.heap.size w w3 := (hbw.trans (hb2.mono hb)).trans (hb3.mono (hbw.trans (hb2.mono hb)).size)
      clear hGd hG' hown2 hT2 hb2 hb3 hap hsz
      go_wp2_with fail
      refine (c_trimmed w3 w3.heap.size (some ⟨b, 0, none⟩) my cap (y / 10000000000000000000) (fun _ => ⟨b, 0, rfl, hG3.lt, fun k hk => by rw [Nat.zero_add, hG3.cell (by omega), HGD.out k hk]⟩) (by rw [← HMY.out]; exact Nat.lt_of_le_of_lt (Nat.div_le_self _ _) (lt_nw y)) hnyc hcap2).mono ?_
      rintro e w' ⟨rfl, rfl⟩
      have HRest := Lib.hid (dec_rest_len y)
      have HStep := Lib.hid (dec_step y)
      have HSame : Hid (y / 10000000000000000000 = 0 → y % 10000000000000000000 = y) := fun h9 => Nat.mod_eq_of_lt (by omega)
      have HNE : Hid (Lib.decDigits (y % 10000000000000000000) ≠ []) := dec_ne _
      generalize y / 10000000000000000000 = z at *
      generalize y % 10000000000000000000 = r at *
      rcases Nat.eq_zero_or_pos (z) with hq | hq
      · have hq0 : nw (z) = 0 := by rw [hq, nw_zero]
        have HQ0 := Lib.hid hq
        generalize hds : Lib.decDigits r = ds at *
        have HQQ := Lib.hid hq0
        have HDS := Lib.hid hds
        rw [hq0]
        clear hds hq hq0
        have hGW := hG3
        have hownW := hown3
        have hBW := hB3
        clear hG3 hown3 hB3
        have HN2 := Lib.hid (one_news w3 ⟨ds.toArray⟩)
        have HN3 := Lib.hid (one_cell ⟨ds.toArray⟩)
        have hownA := own_below hownW ((Below.refl w3.heap.size w3).alloc (Nat.le_refl _) (.cells #[(Value.string ⟨ds.toArray⟩)] 9))
        have hszA : (w3.alloc (.cells #[(Value.string ⟨ds.toArray⟩)] 9)).heap.size = w3.heap.size + 1 := by simp
        have hbW : b < w3.heap.size := hGW.lt
        go_wp2_with (at_builtin; refine wpList_append_own _ rfl (.tmp 30) (.tmp 32) _ rfl (b + 1) 9 i0 (.string ⟨#[]⟩) 1 16 Tryz.underlying231 HI.out HZ0.out HZ1.out HZ2.out rfl (Nat.zero_lt_one) u4 parts.length (parts.map strOf) rfl hownA ⟨w3.heap.size, 0, none⟩ 1 1 [(Value.string ⟨ds.toArray⟩)] rfl rfl HN2.out HN3.out (by have := HPL.out; unfold maxLen; omega) (by have := HPL.out; omega) (by omega) ?_; intro v' w6 hown6 hgrow _)
        have hG6 : w6.rowIs b 89 cap G' := by
          have hr : (w3.alloc (.cells #[(Value.string ⟨ds.toArray⟩)] 9)).rowIs b 89 cap G' := row_below ((Below.refl w3.heap.size w3).alloc (Nat.le_refl _) _) hbW hGW
          obtain ⟨cur, r1, r2⟩ := hr
          exact ⟨cur, (hgrow.block b (by omega) (fun e => by have := hownA.lt b e.symm; omega)).trans r1, r2⟩
        have hB6 : Hid (Below w.heap.size w w6) := (hBW.alloc hBW.size _).grown hgrow (by have := hBW.size; omega) (fun k hk => by have := (hownA.lt k hk).1; omega)
        have hX : (Value.string ⟨ds.toArray⟩) = strOf (ds) := rfl
        rw [hX] at hown6
        have hown7 : w6.ownsRow (b + 1) 9 1 v' (parts ++ [ds]).length ((parts ++ [ds]).map strOf) := by
          rw [List.length_append, List.map_append]; exact hown6
        have hlv : (parts ++ [ds]).length = lenV v' := by
          rcases hown7.2 with ⟨_, h9⟩ | ⟨g9, cap9, cur9, h9, _⟩
          · simp at h9
          · rw [h9]; rfl
        have hMeas : Hid ((Lib.decDigits x).length + 1 - lenV v' < (Lib.decDigits x).length + 1 - lenV u4) := by
          show _ < _
          rw [← hlv, ← HP.out.2.2.2, List.length_append]
          have := HPL.out
          simp
          omega
        clear hown6 hownA hownW hGW hszA HN2 HN3 hX
        go_wp2
        refine ⟨⟨(z), G', parts ++ [ds], by rw [HQQ.out], hG6, fun j hj => HGD.out j (Nat.lt_of_lt_of_le hj (by have h7 := HQQ.out; have h5 := HYM.out; omega)), hown7, ⟨?_, by have h7 := HQQ.out; have h5 := HYM.out; have h6 := HP.out.2.1; omega, ?_, hlv⟩, hB6.out⟩, hMeas.out⟩
        · intro l hl
          rcases List.mem_append.1 hl with h9 | h9
          · exact HP.out.1 l h9
          · have h8 : l = ds := by simpa using h9
            rw [h8]; exact HNE.out
        · refine .inl ⟨HQ0.out, ?_⟩
          rcases HP.out.2.2.1 with ⟨h9, _⟩ | ⟨_, h9⟩
          · omega
          · rw [flat_snoc, h9, ← HDS.out, HSame.out HQ0.out]
      · have hq0 : 0 < nw (z) := (nw_pos _).2 hq
        have hq1 : (0 : Int) < (nw (z) : Int) := by omega
        have HQ0 := Lib.hid hq
        generalize hds : Lib.decDigits r = ds at *
        generalize hqq : nw (z) = nq at *
        have HQQ := Lib.hid hqq
        have HDS := Lib.hid hds
        clear hqq hds hq
        have hrep := Tryz.strings_Repeat ⟨#[48]⟩ (19 - ds.length) w3 (by omega) (by show 1 * (19 - ds.length) ≤ _; omega)
        have hc9 : ((19 - ds.length : Nat) : Int) = wrap64 (19 - (ds.length : Int)) := by have := HRest.out; unfold wrap64; omega
        rw [hc9, show Lib.repeatL (⟨#[48]⟩ : ByteArray).data.toList (19 - ds.length) = List.replicate (19 - ds.length) 48 from repeat_zero _] at hrep
        obtain ⟨rs, hrs⟩ : ∃ rs, (⟨(List.replicate (19 - ds.length) 48).toArray⟩ : ByteArray) = rs := ⟨_, rfl⟩
        rw [hrs] at hrep
        have HRS := Lib.hid hrs
        have hrs1 : rs.size ≤ 19 := by rw [← hrs]; show (List.replicate (19 - ds.length) (48 : UInt8)).toArray.size ≤ 19; simp
        have HRS1 := Lib.hid hrs1
        have HRep := Lib.hid hrep
        clear hrep hc9 hrs hrs1
        go_wp2_with fail
        refine HRep.out.mono ?_
        rintro e w4 ⟨rfl, hb4⟩
        have hrs1 := HRS1.out
        have hds1 : ds.length ≤ 19 := HRest.out
        have hGW := row_below hb4 hG3.lt hG3
        have hownW := own_below hown3 hb4
        have hBW : Below w.heap.size w w4 := hB3.trans (hb4.mono hB3.size)
        clear hG3 hown3 hB3 hb4 HRep
        have HN2 := Lib.hid (one_news w4 (rs ++ ⟨ds.toArray⟩))
        have HN3 := Lib.hid (one_cell (rs ++ ⟨ds.toArray⟩))
        have hownA := own_below hownW ((Below.refl w4.heap.size w4).alloc (Nat.le_refl _) (.cells #[(Value.string (rs ++ ⟨ds.toArray⟩))] 9))
        have hszA : (w4.alloc (.cells #[(Value.string (rs ++ ⟨ds.toArray⟩))] 9)).heap.size = w4.heap.size + 1 := by simp
        have hbW : b < w4.heap.size := hGW.lt
        go_wp2_with (at_builtin; refine wpList_append_own _ rfl (.tmp 30) (.tmp 32) _ rfl (b + 1) 9 i0 (.string ⟨#[]⟩) 1 16 Tryz.underlying231 HI.out HZ0.out HZ1.out HZ2.out rfl (Nat.zero_lt_one) u4 parts.length (parts.map strOf) rfl hownA ⟨w4.heap.size, 0, none⟩ 1 1 [(Value.string (rs ++ ⟨ds.toArray⟩))] rfl rfl HN2.out HN3.out (by have := HPL.out; unfold maxLen; omega) (by have := HPL.out; omega) (by omega) ?_; intro v' w6 hown6 hgrow _)
        have hG6 : w6.rowIs b 89 cap G' := by
          have hr : (w4.alloc (.cells #[(Value.string (rs ++ ⟨ds.toArray⟩))] 9)).rowIs b 89 cap G' := row_below ((Below.refl w4.heap.size w4).alloc (Nat.le_refl _) _) hbW hGW
          obtain ⟨cur, r1, r2⟩ := hr
          exact ⟨cur, (hgrow.block b (by omega) (fun e => by have := hownA.lt b e.symm; omega)).trans r1, r2⟩
        have hB6 : Hid (Below w.heap.size w w6) := (hBW.alloc hBW.size _).grown hgrow (by have := hBW.size; omega) (fun k hk => by have := (hownA.lt k hk).1; omega)
        have hX : (Value.string (rs ++ ⟨ds.toArray⟩)) = strOf (List.replicate (19 - ds.length) 48 ++ ds) := by rw [← HRS.out]; exact congrArg Value.string (by apply ByteArray.ext; simp)
        rw [hX] at hown6
        have hown7 : w6.ownsRow (b + 1) 9 1 v' (parts ++ [List.replicate (19 - ds.length) 48 ++ ds]).length ((parts ++ [List.replicate (19 - ds.length) 48 ++ ds]).map strOf) := by
          rw [List.length_append, List.map_append]; exact hown6
        have hlv : (parts ++ [List.replicate (19 - ds.length) 48 ++ ds]).length = lenV v' := by
          rcases hown7.2 with ⟨_, h9⟩ | ⟨g9, cap9, cur9, h9, _⟩
          · simp at h9
          · rw [h9]; rfl
        have hMeas : Hid ((Lib.decDigits x).length + 1 - lenV v' < (Lib.decDigits x).length + 1 - lenV u4) := by
          show _ < _
          rw [← hlv, ← HP.out.2.2.2, List.length_append]
          have := HPL.out
          simp
          omega
        clear hown6 hownA hownW hGW hszA HN2 HN3 hX
        go_wp2
        refine ⟨⟨(z), G', parts ++ [List.replicate (19 - ds.length) 48 ++ ds], by rw [HQQ.out], hG6, fun j hj => HGD.out j (Nat.lt_of_lt_of_le hj (by have h7 := HQQ.out; have h5 := HYM.out; omega)), hown7, ⟨?_, by have h7 := HQQ.out; have h5 := HYM.out; have h6 := HP.out.2.1; omega, ?_, hlv⟩, hB6.out⟩, hMeas.out⟩
        · intro l hl
          rcases List.mem_append.1 hl with h9 | h9
          · exact HP.out.1 l h9
          · have h8 : l = List.replicate (19 - ds.length) 48 ++ ds := by simpa using h9
            rw [h8]; exact fun h9 => HNE.out (List.append_eq_nil_iff.1 h9).2
        · have h7 : 0 < z := HQ0.out
          refine .inr ⟨h7, ?_⟩
          rcases HP.out.2.2.1 with ⟨h9, _⟩ | ⟨_, h9⟩
          · omega
          · rw [flat_snoc, h9, HStep.out h7, List.append_assoc]
theorem g_decimal (w : World) (v : Value) (x : Nat) (h : NatAt w v x) (hn : nw x ≤ 1000000) (htab : Tab w) :
    Calls Tryz.prog 167 #[v] w fun e w' => e = .returned (.string ⟨(Lib.decDigits x).toArray⟩) ∧ Below w.heap.size w w' := by
  by_cases h0 : x = 0
  · subst h0; exact c_decimal_zero w v h
  · exact g_decimal_pos w v x h hn (by omega) htab
/-- The string of a number. -/
def txt (q : Rat) : List UInt8 := ratText (decide (q.num < 0)) q.num.natAbs q.den

set_option maxHeartbeats 1000000 in
theorem v_Text (w : World) (v : Value) (q : Rat) (h : RatV w v q) (k : RatW q 100000) (htab : Tab w) :
    Calls Tryz.prog 131 #[v] w fun e w' => e = .returned (.string ⟨(txt q).toArray⟩) ∧ Below w.heap.size w w' := by
  unfold txt
  have hn1 : (Lib.decDigits q.num.natAbs).length ≤ 20 * (nw q.num.natAbs + 1) := dec_len_words _ _ (Nat.lt_of_lt_of_le (lt_nw _) (Nat.pow_le_pow_right W64_pos (Nat.le_succ _))) (Nat.succ_pos _)
  have hd1 : (Lib.decDigits q.den).length ≤ 20 * (nw q.den + 1) := dec_len_words _ _ (Nat.lt_of_lt_of_le (lt_nw _) (Nat.pow_le_pow_right W64_pos (Nat.le_succ _))) (Nat.succ_pos _)
  have hn2 : (Lib.decDigits q.num.natAbs).length ≤ 3000000 := by have := k.1; omega
  have hd2 : (Lib.decDigits q.den).length ≤ 3000000 := by have := k.2; omega
  have HN2 := Lib.hid hn2
  have HD2 := Lib.hid hd2
  have h' : RatAt w v (decide (q.num < 0)) q.num.natAbs q.den := h
  have k1 := k.1
  have k2 := k.2
  clear hn1 hd1 hn2 hd2 h k
  generalize decide (q.num < 0) = neg at *
  generalize q.num.natAbs = n at *
  generalize q.den = d at *
  have HV := Lib.hid (c_valid w v neg n d h')
  obtain ⟨b, nv, dv, rfl, hlt, _, h1, h2, h3, hn, hd⟩ := h'
  have HDN := Lib.hid (g_decimal w nv n hn (by omega) htab)
  have HT : Hid (ratText neg n d = (if neg then [45] else []) ++ Lib.decDigits n ++ (if d = 1 then [] else 47 :: Lib.decDigits d)) := rfl
  have HDD : Hid (∀ W, Below w.heap.size w W → Calls Tryz.prog 167 #[dv] W fun e w' => e = .returned (.string ⟨(Lib.decDigits d).toArray⟩) ∧ Below W.heap.size W w') := fun W hW => g_decimal W dv d (hd.below hW) (by omega) (htab.below hW)
  have HO : Hid (∀ W, Below w.heap.size w W → Calls Tryz.prog 168 #[dv] W fun e w' => e = .returned (.bool (isOneB d)) ∧ W = w') := fun W hW => n_isOne W dv d (hd.below hW)
  clear hn hd k1 k2 htab
  by_cases hd0 : d = 1
  · have HB : Hid (isOneB d = true) := by show (d == 1) = true; simp [hd0]
    have HT' : Hid (ratText neg n d = (if neg then [45] else []) ++ Lib.decDigits n) := by show _ = _; rw [HT.out, if_pos hd0, List.append_nil]
    clear hd0 HT
    cases neg
    all_goals
      go_enter Tryz.func131, Tryz.ntmps131
      go_wp2_with fail
      refine HV.out.mono ?_
      rintro e w' ⟨rfl, rfl⟩
      go_wp2_with fail
      refine HDN.out.mono ?_
      rintro e w1 ⟨rfl, hb⟩
      have hdn := HN2.out
      generalize Lib.decDigits n = dn at *
      have c1 := (hb.cell (p := ⟨b, 1, none⟩) hlt).trans h1
      have c3 := (hb.cell (p := ⟨b, 3, none⟩) hlt).trans h3
      go_wp2_with fail
      refine (HO.out _ hb).mono ?_
      rintro e w' ⟨rfl, rfl⟩
      rw [HB.out]
      go_wp2
      go_ret
      refine ⟨?_, hb⟩
      rw [HT'.out]
      exact ret_s (by apply ByteArray.ext; simp)
  · have HB : Hid (isOneB d = false) := by show (d == 1) = false; simp [hd0]
    have HT' : Hid (ratText neg n d = (if neg then [45] else []) ++ Lib.decDigits n ++ (47 :: Lib.decDigits d)) := by show _ = _; rw [HT.out, if_neg hd0]
    clear hd0 HT
    cases neg
    all_goals
      go_enter Tryz.func131, Tryz.ntmps131
      go_wp2_with fail
      refine HV.out.mono ?_
      rintro e w' ⟨rfl, rfl⟩
      go_wp2_with fail
      refine HDN.out.mono ?_
      rintro e w1 ⟨rfl, hb⟩
      have hdn := HN2.out
      generalize Lib.decDigits n = dn at *
      have c1 := (hb.cell (p := ⟨b, 1, none⟩) hlt).trans h1
      have c3 := (hb.cell (p := ⟨b, 3, none⟩) hlt).trans h3
      go_wp2_with fail
      refine (HO.out _ hb).mono ?_
      rintro e w' ⟨rfl, rfl⟩
      rw [HB.out]
      go_wp2_with fail
      refine (HDD.out _ hb).mono ?_
      rintro e w2 ⟨rfl, hb2⟩
      have hdd := HD2.out
      generalize Lib.decDigits d = dd at *
      go_wp2
      go_ret
      refine ⟨?_, btr hb hb2⟩
      rw [HT'.out]
      exact ret_s (by apply ByteArray.ext; simp)
end Go.Proofs.YtogmbehomilalaaGreatDoor
end

/- Plain lists of bytes: a text with its quotes doubled. No condition. -/
section
namespace Go.Proofs.YtogmbehomilalaaGreatDoor
/-- A text with each of its quotes twice. -/
def quo : List UInt8 → List UInt8
  | [] => []
  | b :: l => (if b = 39 then [39, 39] else [b]) ++ quo l
theorem index_cons (b : UInt8) (l : List UInt8) : Lib.index (b :: l) [39] = if b = 39 then 0 else if Lib.index l [39] == -1 then -1 else Lib.index l [39] + 1 := by
  rw [Lib.index]
  by_cases h : b = 39
  · subst h
    simp [List.isPrefixOf]
  · have h1 : ([39] : List UInt8).isPrefixOf (b :: l) = false := by
      simp [List.isPrefixOf]
      exact fun e => h e.symm
    rw [h1, if_neg h]
    rfl
theorem count_quote (b : UInt8) (l : List UInt8) : Lib.count (b :: l) [39] = (if b = 39 then 1 else 0) + Lib.count l [39] := by
  by_cases h : b = 39
  · subst h
    rw [Lib.count_hit (i := 0) (by simp) (by rw [index_cons, if_pos rfl]; rfl), if_pos rfl]
    rfl
  · rw [if_neg h, Nat.zero_add]
    by_cases hm : Lib.index l [39] = -1
    · rw [Lib.count_miss hm, Lib.count_miss]
      rw [index_cons, if_neg h, hm]
      rfl
    · have hge := Lib.index_ge l [39]
      obtain ⟨i, hi⟩ : ∃ i : Nat, Lib.index l [39] = i := ⟨(Lib.index l [39]).toNat, by omega⟩
      have h2 : Lib.index (b :: l) [39] = ((i + 1 : Nat) : Int) := by
        rw [index_cons, if_neg h, if_neg (by rw [beq_iff_eq]; exact hm), hi]; omega
      rw [Lib.count_hit (by simp) h2, Lib.count_hit (by simp) hi]
      rfl
theorem count_quote_le : ∀ l : List UInt8, Lib.count l [39] ≤ l.length
  | [] => by rw [Lib.count_miss (by rfl)]; exact Nat.zero_le _
  | b :: l => by
    rw [count_quote, List.length_cons]
    have := count_quote_le l
    split <;> omega
theorem replaceK_quo : ∀ l : List UInt8, Lib.replaceK [39] [39, 39] (Lib.count l [39]) l = quo l
  | [] => by rw [Lib.count_miss (by rfl)]; rfl
  | b :: l => by
    have ih := replaceK_quo l
    rw [count_quote]
    by_cases h : b = 39
    · subst h
      rw [if_pos rfl, Nat.add_comm, Lib.replaceK_hit _ _ _ _ 0 (by rw [index_cons, if_pos rfl]; rfl)]
      show [] ++ [39, 39] ++ Lib.replaceK [39] [39, 39] (Lib.count l [39]) l = _
      rw [ih]; rfl
    · rw [if_neg h, Nat.zero_add]
      have hq : quo (b :: l) = b :: quo l := by rw [quo, if_neg h]; rfl
      rw [hq, ← ih]
      rcases hc : Lib.count l [39] with _ | k
      · rfl
      · obtain ⟨i, hi⟩ := Lib.index_of_count (s := l) (old := [39]) (by omega)
        have hm : Lib.index l [39] ≠ -1 := by omega
        have h2 : Lib.index (b :: l) [39] = ((i + 1 : Nat) : Int) := by
          rw [index_cons, if_neg h, if_neg (by rw [beq_iff_eq]; exact hm), hi]; omega
        rw [Lib.replaceK_hit _ _ _ _ (i + 1) h2, Lib.replaceK_hit _ _ _ _ i hi]
        rfl
theorem replaceAll_quo (l : List UInt8) : Lib.replaceAll l [39] [39, 39] = quo l := by
  have h1 : Lib.replaceNum l [39] (-1) = Lib.count l [39] := by unfold Lib.replaceNum; rw [if_pos (.inl (by decide))]
  unfold Lib.replaceAll Lib.replace
  rw [if_neg (by decide), h1, replaceK_quo]
theorem quo_length : ∀ l : List UInt8, (quo l).length ≤ 2 * l.length
  | [] => Nat.le_refl _
  | b :: l => by
    have := quo_length l
    rw [quo, List.length_append, List.length_cons]
    split <;> simp <;> omega
end Go.Proofs.YtogmbehomilalaaGreatDoor
end

/- What Check and Print return of a value; the variables of values. -/
section
namespace Go.Proofs.YtogmbehomilalaaGreatDoor
open Go.RowKit Go.Deep

def errB (b : Bool) : Int := if b then 0 else 2
theorem ret_two {a b : ByteArray} {c : Int} (h : a = b) : Ending.returned (.tuple #[.string a, .int .i64 c]) = .returned (.tuple #[.string b, .int .i64 c]) := by rw [h]
/-- What Print returns of a value. -/
def prnV (k n d : Int) (s : ByteArray) : ByteArray :=
  if okB k n d s = true then if k = 0 then ⟨(63 :: Lib.decDigits n.toNat).toArray⟩ else if k = 1 then (if n = 1 then ⟨#[116, 114, 117, 101]⟩ else ⟨#[102, 97, 108, 115, 101]⟩) else if k = 2 then ⟨(txt (qV n d)).toArray⟩ else ⟨(39 :: quo s.data.toList ++ [39]).toArray⟩ else ⟨#[]⟩
end Go.Proofs.YtogmbehomilalaaGreatDoor
end

/- The program's Number, Check and Print, whatever the value. -/
section
namespace Go.Proofs.YtogmbehomilalaaGreatDoor
open Go.RowKit Go.Deep

set_option maxHeartbeats 1000000 in
theorem c_FormatInt (n : Nat) (w : World) (h1 : n ≤ 255) (htab : Tab w) :
    Calls Tryz.prog 128 #[.int .i64 n, .int .i64 10] w fun e w' => e = .returned (.string ⟨(Lib.decDigits n).toArray⟩) ∧ Below w.heap.size w w' := by
  have HS : Hid (Calls Tryz.prog 127 #[.int .i64 n, .int .i64 10] w fun e w' => e = .returned (.string ⟨(Lib.decDigits n).toArray⟩) ∧ Below w.heap.size w w') := by
    refine (Tryz.internal_strconv_FormatInt_10 (n : Int) (by omega) (by omega) w htab).mono ?_
    rintro e w' ⟨rfl, k, os, rfl⟩
    refine ⟨?_, Lib.below_grow w.heap.size w (Nat.le_refl _) k os⟩
    rw [show Lib.itoa (n : Int) = Lib.decDigits n by unfold Lib.itoa; rw [if_neg (by omega), Int.toNat_natCast]]
  clear htab
  go_enter Tryz.func128, Tryz.ntmps128
  go_wp2_with fail
  refine HS.out.mono ?_
  rintro e w' ⟨rfl, hb⟩
  go_wp2
  go_ret
  exact ⟨rfl, hb⟩

theorem kinds_of (k n d : Int) (s : ByteArray) (w : World) : ∃ W, w.alloc (.cells #[.int .i64 k, .int .i64 n, .int .i64 d, .string s] 40) = W ∧ Below w.heap.size w W ∧
    Hid (∀ W', Below W.heap.size W W' → W'.cell? ⟨w.heap.size, 0, none⟩ = some (.int .i64 k) ∧ W'.cell? ⟨w.heap.size, 1, none⟩ = some (.int .i64 n) ∧ W'.cell? ⟨w.heap.size, 2, none⟩ = some (.int .i64 d) ∧ W'.cell? ⟨w.heap.size, 3, none⟩ = some (.string s)) := by
  obtain ⟨W, b, hW, hb, hlt, hbel, K⟩ := box_facts w k n d s
  subst hb
  exact ⟨W, hW, hbel, K⟩

set_option maxRecDepth 100000 in
set_option maxHeartbeats 4000000 in
theorem v_Print (k n d : Int) (s : ByteArray) (m : Int) (w : World) (htab : Tab w) (hm : w.cell? ⟨6, 0, none⟩ = some (.int .i64 m)) :
    Calls Tryz.prog 106 #[V k n d s] w fun e w' => e = .returned (.tuple #[.string (prnV k n d s), .int .i64 (errB (okB k n d s))]) ∧ Below w.heap.size w w' := by
  have h0 : 6 < w.heap.size := by
    by_cases h : 6 < w.heap.size
    · exact h
    · exfalso
      have : w.heap[6]? = none := Array.getElem?_eq_none (by omega)
      simp [World.cell?, this] at hm
  have HM : Hid (∀ W', Below w.heap.size w W' → W'.cell? ⟨6, 0, none⟩ = some (.int .i64 m)) := fun W' hw => (hw.cell (p := ⟨6, 0, none⟩) h0).trans hm
  have HT := Lib.hid htab
  clear htab hm h0
  have HV := Lib.hid (fun W => k_valid k n d s W)
  by_cases hok : okB k n d s = true
  · have hg := okB_good.1 hok
    have hp : prnV k n d s = if k = 0 then ⟨(63 :: Lib.decDigits n.toNat).toArray⟩ else if k = 1 then (if n = 1 then ⟨#[116, 114, 117, 101]⟩ else ⟨#[102, 97, 108, 115, 101]⟩) else if k = 2 then ⟨(txt (qV n d)).toArray⟩ else ⟨(39 :: quo s.data.toList ++ [39]).toArray⟩ := if_pos hok
    rw [hok] at HV
    rw [hok, hp]
    clear hp hok
    cases hg with
    | text _ h =>
      have hz := h.1
      obtain ⟨W, hW, hbel, K⟩ := kinds_of 3 0 0 s w
      have HBel := Lib.hid hbel
      obtain ⟨k0, k1, k2, k3⟩ := K.out W (Below.refl _ _)
      have HR : Hid (∀ W, Below w.heap.size w W → Calls Tryz.prog 132 #[.string s, .string ⟨#[39]⟩, .string ⟨#[39, 39]⟩] W fun e w' => e = .returned (.string ⟨(quo s.data.toList).toArray⟩) ∧ Below W.heap.size W w') := fun W hw => by
        have h9 := Tryz.strings_ReplaceAll s ⟨#[39]⟩ ⟨#[39, 39]⟩ m W (by omega) (HM.out _ hw) (by decide) (by
          have e1 : Lib.countB s ⟨#[39]⟩ ≤ s.size := by
            have := count_quote_le s.data.toList
            have e2 : s.data.toList.length = s.size := by simp
            first | exact e2 ▸ this | (unfold Lib.countB; exact e2 ▸ this)
          have e2 : (⟨#[39, 39]⟩ : ByteArray).size = 2 := rfl
          rw [e2]; omega)
        have e3 : Lib.replaceAll s.data.toList (⟨#[39]⟩ : ByteArray).data.toList (⟨#[39, 39]⟩ : ByteArray).data.toList = quo s.data.toList := replaceAll_quo _
        rw [e3] at h9
        exact h9
      have hql : (quo s.data.toList).length ≤ 40 := by
        have := quo_length s.data.toList
        have e2 : s.data.toList.length = s.size := by simp
        omega
      rw [if_neg (by decide), if_neg (by decide), if_neg (by decide)]
      generalize quo s.data.toList = Q at *
      clear h hbel
      go_enter Tryz.func106, Tryz.ntmps106
      go_wp2_with fail
      refine (HV.out W).mono ?_
      rintro e w1 ⟨rfl, hb1⟩
      have HB1 := Lib.hid hb1
      clear k0 k1 k2 k3
      obtain ⟨k0, k1, k2, k3⟩ := K.out _ hb1
      clear hb1
      go_wp2_with fail
      refine (HR.out w1 (btr HBel.out HB1.out)).mono ?_
      rintro e w2 ⟨rfl, hb2⟩
      have HB2 := Lib.hid (btr HB1.out hb2)
      clear hb2 k0 k1 k2 k3
      go_wp2
      go_ret2
      exact ⟨ret_two (by apply ByteArray.ext; simp [ByteArray.data_append]), btr HBel.out HB2.out⟩
    | missing n h1 h2 =>
      obtain ⟨c, rfl⟩ : ∃ c : Nat, n = (c : Int) := ⟨n.toNat, by omega⟩
      obtain ⟨W, hW, hbel, K⟩ := kinds_of 0 c 0 noS w
      have HBel := Lib.hid hbel
      obtain ⟨k0, k1, k2, k3⟩ := K.out W (Below.refl _ _)
      have HF : Hid (∀ W, Below w.heap.size w W → Calls Tryz.prog 128 #[.int .i64 c, .int .i64 10] W fun e w' => e = .returned (.string ⟨(Lib.decDigits c).toArray⟩) ∧ Below W.heap.size W w') := fun W hw => c_FormatInt c W (by omega) (HT.out.below hw)
      have hl9 : (Lib.decDigits c).length ≤ 900009 := Nat.le_trans (dec_len_words c 1 (by rw [Nat.pow_one]; unfold W64; omega) (by decide)) (by decide)
      have hT : Hid ((⟨(63 :: Lib.decDigits ((c : Int)).toNat).toArray⟩ : ByteArray) = ⟨(63 :: Lib.decDigits c).toArray⟩) := by show _ = _; rw [Int.toNat_natCast]
      rw [if_pos rfl, hT.out]
      generalize Lib.decDigits c = D at *
      clear hbel
      go_enter Tryz.func106, Tryz.ntmps106
      go_wp2_with fail
      refine (HV.out W).mono ?_
      rintro e w1 ⟨rfl, hb1⟩
      have HB1 := Lib.hid hb1
      clear k0 k1 k2 k3
      obtain ⟨k0, k1, k2, k3⟩ := K.out _ hb1
      clear hb1
      go_wp2_with fail
      refine (HF.out w1 (btr HBel.out HB1.out)).mono ?_
      rintro e w2 ⟨rfl, hb2⟩
      have HB2 := Lib.hid (btr HB1.out hb2)
      clear hb2 k0 k1 k2 k3
      go_wp2
      go_ret2
      exact ⟨ret_two (by apply ByteArray.ext; simp [ByteArray.data_append]), btr HBel.out HB2.out⟩
    | truth t =>
      obtain ⟨W, hW, hbel, K⟩ := kinds_of 1 (bit t) 0 noS w
      have HBel := Lib.hid hbel
      obtain ⟨k0, k1, k2, k3⟩ := K.out W (Below.refl _ _)
      rw [if_neg (by decide), if_pos rfl]
      clear hbel
      cases t
      · have HF := Lib.hid (fun W => Tryz.strconv_FormatBool false W)
        go_enter Tryz.func106, Tryz.ntmps106
        go_wp2_with fail
        refine (HV.out W).mono ?_
        rintro e w1 ⟨rfl, hb1⟩
        have HB1 := Lib.hid hb1
        clear k0 k1 k2 k3
        obtain ⟨k0, k1, k2, k3⟩ := K.out _ hb1
        clear hb1
        go_wp2_with fail
        refine (HF.out w1).mono ?_
        rintro e w2 ⟨rfl, rfl⟩
        clear k0 k1 k2 k3
        go_wp2
        go_ret2
        exact ⟨rfl, btr HBel.out HB1.out⟩
      · have HF := Lib.hid (fun W => Tryz.strconv_FormatBool true W)
        go_enter Tryz.func106, Tryz.ntmps106
        go_wp2_with fail
        refine (HV.out W).mono ?_
        rintro e w1 ⟨rfl, hb1⟩
        have HB1 := Lib.hid hb1
        clear k0 k1 k2 k3
        obtain ⟨k0, k1, k2, k3⟩ := K.out _ hb1
        clear hb1
        go_wp2_with fail
        refine (HF.out w1).mono ?_
        rintro e w2 ⟨rfl, rfl⟩
        clear k0 k1 k2 k3
        go_wp2
        go_ret2
        exact ⟨rfl, btr HBel.out HB1.out⟩
    | num n d h =>
      obtain ⟨W, hW, hbel, K⟩ := kinds_of 2 n d noS w
      have HBel := Lib.hid hbel
      obtain ⟨k0, k1, k2, k3⟩ := K.out W (Below.refl _ _)
      have HR := Lib.hid (fun W => v_rat W n d h)
      have HTx : Hid (∀ W u, Below w.heap.size w W → RatV W u (qV n d) → Calls Tryz.prog 131 #[u] W fun e w' => e = .returned (.string ⟨(txt (qV n d)).toArray⟩) ∧ Below W.heap.size W w') := fun W u hw hu => by
        have h9 := ratW_qV h
        exact v_Text W u _ hu ⟨by have := h9.1; omega, by have := h9.2; omega⟩ (HT.out.below hw)
      rw [if_neg (by decide), if_neg (by decide), if_pos rfl]
      generalize qV n d = q at *
      generalize txt q = T at *
      clear hbel h
      go_enter Tryz.func106, Tryz.ntmps106
      go_wp2_with fail
      refine (HV.out W).mono ?_
      rintro e w1 ⟨rfl, hb1⟩
      have HB1 := Lib.hid hb1
      clear k0 k1 k2 k3
      obtain ⟨k0, k1, k2, k3⟩ := K.out _ hb1
      clear hb1
      go_wp2_with fail
      refine (HR.out w1).mono ?_
      rintro e w2 ⟨u, rfl, hu, hb2⟩
      have HU := Lib.hid hu
      have HB2 := Lib.hid (btr HB1.out hb2)
      clear hu hb2 k0 k1 k2 k3
      go_wp2_with fail
      refine (HTx.out w2 u (btr HBel.out HB2.out) HU.out).mono ?_
      rintro e w3 ⟨rfl, hb3⟩
      have HB3 := Lib.hid (btr HB2.out hb3)
      clear hb3
      go_wp2
      go_ret2
      exact ⟨rfl, btr HBel.out HB3.out⟩
  · have hok' : okB k n d s = false := by simpa using hok
    rw [hok'] at HV
    rw [show prnV k n d s = ⟨#[]⟩ from if_neg hok, hok']
    obtain ⟨W, hW, hbel, K⟩ := kinds_of k n d s w
    have HBel := Lib.hid hbel
    obtain ⟨k0, k1, k2, k3⟩ := K.out W (Below.refl _ _)
    clear hbel hok hok'
    go_enter Tryz.func106, Tryz.ntmps106
    go_wp2_with fail
    refine (HV.out W).mono ?_
    rintro e w1 ⟨rfl, hb1⟩
    have HB1 := Lib.hid hb1
    clear k0 k1 k2 k3 hb1
    go_wp2
    go_ret2
    exact ⟨rfl, btr HBel.out HB1.out⟩
end Go.Proofs.YtogmbehomilalaaGreatDoor
end
