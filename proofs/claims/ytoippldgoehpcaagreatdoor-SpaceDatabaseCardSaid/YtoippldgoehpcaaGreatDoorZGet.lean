/- The reference's error of a database. -/
import Derived.Test.YtoippldgoehpcaaGreatDoorZSpN
import Derived.Test.YtoippldgoehpcaaGreatDoorZLS
import Derived.Test.YtoippldgoehpcaaGreatDoorZRgT
import Derived.Test.YtoippldgoehpcaaGreatDoorZArF
import Derived.Laws.AppendOwnNone

/- The reference's error of a database. -/
section
namespace Go.Proofs.YtoippldgoehpcaaGreatDoor
open Go Go.RowKit Go.Deep

theorem dbE_of (nm : Nat → ByteArray) (s : ByteArray) (k : Nat) (ck : Int) : dbE (metK [] nm k) s ck = if nameB s = false then 11 else if dupTo nm s k = true then 11 else if ck = 0 then 0 else 2 := by
  rw [dbE, dup_in]
  cases h1 : nameB s
  · rfl
  · cases h2 : dupTo nm s k <;> rfl

set_option maxRecDepth 100000 in
set_option maxHeartbeats 4000000 in
theorem r_Database (w : World) (A : Option Addr) (N cap : Nat) (nm : Nat → ByteArray) (P : Nat → ArP) (D : Nat → ArD) (h : DbAt w A N nm P D) (ho : DbOk N nm D) :
    Calls Tryz.prog 36 #[.slice A N cap] w fun e w' => e = .returned (.int .i64 (dbZ nm D N)) ∧ Below w.heap.size w w' := by
  have HD := Lib.hid h
  have HO := Lib.hid ho
  have HNm := Lib.hid r_Name
  obtain ⟨ve, hve⟩ : ∃ ve, dbZ nm D N = ve := ⟨_, rfl⟩
  rw [hve]
  have HV : Hid (ve = if 16 < N then 9 else dbTo nm D N) := hve.symm
  clear h ho hve
  by_cases h16 : (N : Int) > 16
  · have HF : Hid (ve = 9) := by show _ = _; rw [HV.out, if_pos (by omega)]
    go_enter Tryz.func36, Tryz.ntmps36
    go_wp2
    go_ret
    exact ⟨by rw [HF.out]; rfl, Below.refl _ _⟩
  · have HV2 : Hid (ve = dbTo nm D N) := by show _ = _; rw [HV.out, if_neg (by omega)]
    clear HV
    go_enter Tryz.func36, Tryz.ntmps36
    go_wp2
    go_loopw [3, 4] (fun i _ wr => ∃ k : Nat, k ≤ N ∧ i = .int .i64 k ∧ Hid (dbTo nm D k = 0) ∧ Hid (Below w.heap.size w wr)) (fun i _ _ => N - (intOf i).toNat)
    case atStart => exact ⟨0, Nat.zero_le _, rfl, rfl, Below.refl _ _⟩
    case round =>
      obtain ⟨k, hk, rfl, HK, HB⟩ := hrel
      by_cases hlt : k < N
      · obtain ⟨bd, o, rfl, hbd, hc⟩ := (HD.out.below HB.out).at_ (by omega)
        obtain ⟨⟨c0, c1, c2, c3⟩, hAr⟩ := hc k hlt
        clear hc hAr c0 c1 c2 c3
        have HCW : Hid (∀ W, Below w.heap.size w W → ∀ j, j < N → (W.cell? ⟨bd, o + j * 4, none⟩ = some (.string (nm j)) ∧ W.cell? ⟨bd, o + j * 4 + 1, none⟩ = some (.slice (P j).A (D j).n (P j).cap) ∧ W.cell? ⟨bd, o + j * 4 + 2, none⟩ = some (.slice (P j).B (D j).m (P j).bcap) ∧ W.cell? ⟨bd, o + j * 4 + 3, none⟩ = some (.slice (P j).C (D j).N (P j).ccap)) ∧ ArAt W (P j) (D j)) := fun W hW j hj => by
          obtain ⟨bd', o', e1, _, hc'⟩ := (HD.out.below hW).at_ (by omega)
          injection e1 with e1
          injection e1 with e1 e2
          subst e1 e2
          exact hc' j hj
        have HT : Hid (dbTo nm D (k + 1) = if nameB (nm k) = false then 11 else if dupTo nm (nm k) k = true then 11 else if (D k).check = 0 then 0 else 2) := by show _ = _; rw [dbTo, if_pos HK.out, dbE_of]
        have HE : Hid (dbTo nm D (k + 1) ≠ 0 → ve = dbTo nm D (k + 1)) := fun h => by rw [HV2.out]; exact dbTo_le h (by omega)
        have HNk := Lib.hid (fun W => HNm.out (nm k) W (HO.out k hlt).1)
        have HCk : Hid (∀ W, Below w.heap.size w W → Calls Tryz.prog 18 #[(P k).val (D k).n (D k).m (D k).N] W fun e w' => e = .returned (.int .i64 (D k).check) ∧ Below W.heap.size W w') := fun W hW => ar_Check W (P k) (D k) (HCW.out W hW k hlt).2 (HO.out k hlt).2
        have HKk : Hid (∀ W, Below w.heap.size w W → W.cell? ⟨bd, o + k * 4, none⟩ = some (.string (nm k)) ∧ W.cell? ⟨bd, o + k * 4 + 1, none⟩ = some (.slice (P k).A (D k).n (P k).cap) ∧ W.cell? ⟨bd, o + k * 4 + 2, none⟩ = some (.slice (P k).B (D k).m (P k).bcap) ∧ W.cell? ⟨bd, o + k * 4 + 3, none⟩ = some (.slice (P k).C (D k).N (P k).ccap)) := fun W hW => (HCW.out W hW k hlt).1
        generalize hs9 : nm k = s at *
        have HSN := Lib.hid hs9
        clear hs9
        generalize (D k).check = ck at *
        obtain ⟨E, hDe⟩ : ∃ E, dbTo nm D (k + 1) = E := ⟨_, rfl⟩
        have HDe := Lib.hid hDe
        rw [hDe] at HE HT
        clear hDe
        obtain ⟨c0, c1, c2, c3⟩ := HKk.out wr HB.out
        go_wp2_with fail
        refine (HNk.out _).mono ?_
        rintro e w1 ⟨rfl, rfl⟩
        cases hb : nameB s
        · have HD1 : Hid (ve = 11) := by
            have h9 : E = 11 := by rw [HT.out, if_pos hb]
            exact (HE.out (by rw [h9]; decide)).trans h9
          go_wp2
          go_ret
          exact ⟨by rw [HD1.out]; rfl, HB.out⟩
        · have HT2 : Hid (E = if dupTo nm s k = true then 11 else if ck = 0 then 0 else 2) := by show _ = _; rw [HT.out, if_neg (by rw [hb]; decide)]
          clear hb HT HNk
          go_wp2
          obtain ⟨wo, rfl⟩ : ∃ wo, wo = wr := ⟨_, rfl⟩
          clear c0 c1 c2 c3
          go_loopw [4] (fun i wr => ∃ j : Nat, j ≤ k ∧ i = .int .i64 j ∧ Hid (dupTo nm s j = false) ∧ Hid (Below w.heap.size w wr)) (fun i _ => k - (intOf i).toNat)
          case atStart => exact ⟨0, Nat.zero_le _, rfl, rfl, HB.out⟩
          case round =>
            obtain ⟨j, hj, rfl, HJ, HBj⟩ := hrel
            by_cases hlt2 : j < k
            · have y0 := (HCW.out wr HBj.out j (by omega)).1.1
              have y1 := (HKk.out wr HBj.out).1
              have HU : Hid (dupTo nm s (j + 1) = decide (nm j = s)) := by show _ = _; rw [dupTo, HJ.out, Bool.false_or]
              have HUl : Hid (dupTo nm s (j + 1) = true → dupTo nm s k = true) := fun h => dupTo_le h (by omega)
              generalize nm j = t at *
              by_cases he : t = s
              · subst he
                have HD1 : Hid (ve = 11) := by
                  have h9 : E = 11 := by rw [HT2.out, if_pos (HUl.out (by rw [HU.out, decide_eq_true rfl]))]
                  exact (HE.out (by rw [h9]; decide)).trans h9
                go_wp2
                go_quiet (fail)
                go_wp2
                go_ret
                exact ⟨by rw [HD1.out]; rfl, drewB HBj.out _⟩
              · have h5 : (t.toList == s.toList) = false := by
                  cases h6 : t.toList == s.toList
                  · rfl
                  · exact absurd (str_eq h6) he
                have HR : Hid (dupTo nm s (j + 1) = false) := by show _ = _; rw [HU.out, decide_eq_false he]
                go_wp2
                go_quiet (fail)
                go_wp2
                go_roundw
                case rel => exact ⟨j + 1, by omega, by go_num, HR.out, drewB HBj.out _⟩
                case measure => simp [intOf]; omega
            · obtain rfl : j = k := by omega
              have HT3 : Hid (E = if ck = 0 then 0 else 2) := by show _ = _; rw [HT2.out, if_neg (by rw [HJ.out]; decide)]
              obtain ⟨k0, k1, k2, k3⟩ := HKk.out wr HBj.out
              by_cases hck : ck = 0
              · subst hck
                have HD1 : Hid (E = 0) := HT3.out
                go_wp2_with fail
                refine (HCk.out _ HBj.out).mono ?_
                rintro e w2 ⟨rfl, hb2⟩
                have HB2 : Hid (Below w.heap.size w w2) := st HBj.out hb2
                go_wp2
                go_roundw
                case rel => exact ⟨j + 1, by omega, by go_num, HDe.out.trans HD1.out, HB2.out⟩
                case measure => simp [intOf]; omega
              · have h9 : E = 2 := by rw [HT3.out, if_neg hck]
                have HD1 : Hid (ve = 2) := (HE.out (by rw [h9]; decide)).trans h9
                have g2 : (ck != 0) = true := by rw [bne_iff_ne]; exact hck
                clear h9
                go_wp2_with fail
                refine (HCk.out _ HBj.out).mono ?_
                rintro e w2 ⟨rfl, hb2⟩
                have HB2 : Hid (Below w.heap.size w w2) := st HBj.out hb2
                go_wp2
                go_ret
                exact ⟨by rw [HD1.out]; rfl, HB2.out⟩
      · obtain rfl : k = N := by omega
        go_wp2
        go_ret
        exact ⟨by rw [HV2.out, HK.out]; rfl, HB.out⟩
end Go.Proofs.YtoippldgoehpcaaGreatDoor
end

/- A cell found by its coordinates: the reference. -/
section
namespace Go.Proofs.YtoippldgoehpcaaGreatDoor
open Go Go.RowKit Go.Deep

/-- Where the search by halves ends. -/
def bis (p : Nat → Bool) (lo hi : Nat) : Nat := if lo < hi then (if p ((lo + hi) / 2) then bis p ((lo + hi) / 2 + 1) hi else bis p lo ((lo + hi) / 2)) else lo
termination_by hi - lo
theorem bis_end {p : Nat → Bool} {lo hi : Nat} (h : ¬ lo < hi) : bis p lo hi = lo := by rw [bis, if_neg h]
theorem bis_yes {p : Nat → Bool} {lo hi : Nat} (h : lo < hi) (hp : p ((lo + hi) / 2) = true) : bis p lo hi = bis p ((lo + hi) / 2 + 1) hi := by rw [bis, if_pos h, if_pos hp]
theorem bis_no {p : Nat → Bool} {lo hi : Nat} (h : lo < hi) (hp : p ((lo + hi) / 2) = false) : bis p lo hi = bis p lo ((lo + hi) / 2) := by rw [bis, if_pos h, if_neg (by rw [hp]; decide)]
/-- Does the k-th cell come ahead of the coordinates? -/
def lessB (c : CeD) (m : Nat) (v : Nat → Int) (k : Nat) : Bool := decide (cmpS (c.ln k) m (c.x k) v < 0)
def placeN (N : Nat) (c : CeD) (m : Nat) (v : Nat → Int) : Nat := bis (lessB c m v) 0 N
def foundB (N : Nat) (c : CeD) (m : Nat) (v : Nat → Int) : Bool := decide (placeN N c m v < N) && cmpS (c.ln (placeN N c m v)) m (c.x (placeN N c m v)) v == 0

set_option maxRecDepth 100000 in
set_option maxHeartbeats 4000000 in
theorem r_place (w : World) (C X : Option Addr) (N cc m mc : Nat) (c : CeD) (v : Nat → Int) (hc : CeAt w C N c) (hx : IntsAt w X m v) (hN : N ≤ 1000000) (hm : m ≤ 1000000) :
    Calls Tryz.prog 142 #[.slice C N cc, .slice X m mc] w fun e w' => e = .returned (.int .i64 (placeN N c m v)) ∧ Below w.heap.size w w' := by
  have HC := Lib.hid hc
  have HCm := Lib.hid (fun W P n c f h h1 => r_Compare W P X n c m mc f v h (hx.below h1))
  obtain ⟨R, hR⟩ : ∃ R, placeN N c m v = R := ⟨_, rfl⟩
  rw [hR]
  have HR : Hid (bis (lessB c m v) 0 N = R) := hR
  clear hc hx hR
  go_enter Tryz.func142, Tryz.ntmps142
  go_wp2
  go_loopw [5, 6, 7] (fun l h _ wr => ∃ lo hi : Nat, lo ≤ hi ∧ hi ≤ N ∧ l = .int .i64 lo ∧ h = .int .i64 hi ∧ Hid (bis (lessB c m v) lo hi = R) ∧ Hid (Below w.heap.size w wr)) (fun l h _ _ => (intOf h).toNat - (intOf l).toNat)
  case atStart => exact ⟨0, N, Nat.zero_le _, Nat.le_refl _, rfl, rfl, HR.out, Below.refl _ _⟩
  case round =>
    obtain ⟨lo, hi, hlh, hhN, rfl, rfl, HB, HBw⟩ := hrel
    by_cases hlt : lo < hi
    · obtain ⟨bc, oc, rfl, hbc, hcc⟩ := (HC.out.below HBw.out) (by omega)
      obtain ⟨mid, hmid⟩ : ∃ mid, (lo + hi) / 2 = mid := ⟨_, rfl⟩
      obtain ⟨P, pc, Q, qc, x0, x1, x2, _, x4⟩ := hcc mid (by omega)
      clear hcc
      have hw1 : IntKind.i64.wrap ((lo : Int) + hi) = (lo : Int) + hi := w64 (by omega) (by omega)
      have hq : ((lo : Int) + hi).tdiv 2 = mid := by rw [Int.tdiv_eq_ediv_of_nonneg (by omega)]; omega
      have hw2 : IntKind.i64.wrap (mid : Int) = mid := w64 (by omega) (by omega)
      have hmN : (mid : Int) < (N : Int) := by omega
      have hm0 : (0 : Int) ≤ (mid : Int) := by omega
      have hm2 : mid < N := by omega
      have HCk : Hid (∀ W, Below wr.heap.size wr W → Calls Tryz.prog 28 #[.slice P (c.ln mid) pc, .slice X m mc] W fun e w' => e = .returned (.int .i64 (cmpS (c.ln mid) m (c.x mid) v)) ∧ Below W.heap.size W w') := fun W hW => HCm.out W P _ pc _ (x2.below hW) (st HBw.out hW) (by omega) hm
      have HY : Hid (cmpS (c.ln mid) m (c.x mid) v < 0 → bis (lessB c m v) (mid + 1) hi = R) := fun h => by rw [← HB.out, bis_yes hlt (by rw [hmid]; exact decide_eq_true h), hmid]
      have HNo : Hid (¬ cmpS (c.ln mid) m (c.x mid) v < 0 → bis (lessB c m v) lo mid = R) := fun h => by rw [← HB.out, bis_no hlt (by rw [hmid]; exact decide_eq_false h), hmid]
      generalize cmpS (c.ln mid) m (c.x mid) v = z at *
      generalize c.ln mid = L at *
      generalize c.vl mid = V at *
      go_wp2_with fail
      refine (HCk.out _ (Below.refl _ _)).mono ?_
      rintro e w1 ⟨rfl, hb1⟩
      have HB1 : Hid (Below w.heap.size w w1) := st HBw.out hb1
      by_cases hz : z < 0
      · have HY2 := Lib.hid (HY.out hz)
        go_wp2
        go_roundw
        case rel => exact ⟨mid + 1, hi, by omega, by omega, by go_num, rfl, HY2.out, HB1.out⟩
        case measure => simp [intOf]; omega
      · have HN2 := Lib.hid (HNo.out (by omega))
        go_wp2
        go_roundw
        case rel => exact ⟨lo, mid, by omega, by omega, rfl, rfl, HN2.out, HB1.out⟩
        case measure => simp [intOf]; omega
    · obtain rfl : lo = hi := by omega
      have hR2 : lo = R := by rw [← HB.out, bis_end hlt]
      subst hR2
      go_wp2
      go_ret
      exact ⟨rfl, HBw.out⟩
theorem bis_le {p : Nat → Bool} : ∀ (n lo hi : Nat), hi - lo ≤ n → lo ≤ hi → lo ≤ bis p lo hi ∧ bis p lo hi ≤ hi := by
  intro n
  induction n with
  | zero => intro lo hi h1 h2; rw [bis_end (by omega)]; omega
  | succ n ih =>
    intro lo hi h1 h2
    by_cases hlt : lo < hi
    · cases hp : p ((lo + hi) / 2)
      · rw [bis_no hlt hp]
        have := ih lo ((lo + hi) / 2) (by omega) (by omega)
        omega
      · rw [bis_yes hlt hp]
        have := ih ((lo + hi) / 2 + 1) hi (by omega) (by omega)
        omega
    · rw [bis_end hlt]; omega
theorem place_le (N : Nat) (c : CeD) (m : Nat) (v : Nat → Int) : placeN N c m v ≤ N := (bis_le N 0 N (by omega) (Nat.zero_le _)).2
set_option maxRecDepth 100000 in
set_option maxHeartbeats 4000000 in
theorem r_Lookup (w : World) (C X : Option Addr) (N cc m mc : Nat) (c : CeD) (v : Nat → Int) (hc : CeAt w C N c) (hx : IntsAt w X m v) (hN : N ≤ 1000000) (hm : m ≤ 1000000) :
    Calls Tryz.prog 93 #[.slice C N cc, .slice X m mc] w fun e w' => e = .returned (.int .i64 (if foundB N c m v = true then (placeN N c m v : Int) else -1)) ∧ Below w.heap.size w w' := by
  have HP := Lib.hid (r_place w C X N cc m mc c v hc hx hN hm)
  have HC := Lib.hid hc
  have HCm := Lib.hid (fun W P n c f h h1 => r_Compare W P X n c m mc f v h (hx.below h1))
  have hle := place_le N c m v
  have HF : Hid (foundB N c m v = (decide (placeN N c m v < N) && cmpS (c.ln (placeN N c m v)) m (c.x (placeN N c m v)) v == 0)) := rfl
  obtain ⟨fb, hfb⟩ : ∃ fb, foundB N c m v = fb := ⟨_, rfl⟩
  rw [hfb]
  rw [hfb] at HF
  generalize placeN N c m v = p at *
  clear hc hx hfb
  go_enter Tryz.func93, Tryz.ntmps93
  go_wp2_with fail
  refine HP.out.mono ?_
  rintro e w1 ⟨rfl, hb1⟩
  have HB1 := Lib.hid hb1
  by_cases hlt : p < N
  · obtain ⟨bc, oc, rfl, hbc, hcc⟩ := (HC.out.below HB1.out) (by omega)
    obtain ⟨P, pc, Q, qc, x0, x1, x2, _, x4⟩ := hcc p hlt
    clear hcc
    have hp0 : (0 : Int) ≤ (p : Int) := by omega
    have hpN : (p : Int) < (N : Int) := by omega
    have HCk : Hid (∀ W, Below w1.heap.size w1 W → Calls Tryz.prog 28 #[.slice P (c.ln p) pc, .slice X m mc] W fun e w' => e = .returned (.int .i64 (cmpS (c.ln p) m (c.x p) v)) ∧ Below W.heap.size W w') := fun W hW => HCm.out W P _ pc _ (x2.below hW) (st HB1.out hW) (by omega) hm
    rw [decide_eq_true hlt, Bool.true_and] at HF
    generalize cmpS (c.ln p) m (c.x p) v = z at *
    generalize c.ln p = L at *
    generalize c.vl p = V at *
    go_wp2_with fail
    refine (HCk.out _ (Below.refl _ _)).mono ?_
    rintro e w2 ⟨rfl, hb2⟩
    have HB2 : Hid (Below w.heap.size w w2) := st HB1.out hb2
    by_cases hz : z = 0
    · have hfb : fb = true := by rw [HF.out, hz]; rfl
      subst hz hfb
      go_wp2
      go_ret
      exact ⟨rfl, HB2.out⟩
    · have hz2 : (z == 0) = false := by rw [beq_eq_false_iff_ne]; exact hz
      have hfb : fb = false := by rw [HF.out]; exact hz2
      subst hfb
      go_wp2
      go_ret
      exact ⟨rfl, HB2.out⟩
  · have hfb : fb = false := by rw [HF.out, decide_eq_false hlt]; rfl
    subst hfb
    have h9 : ¬ (p : Int) < (N : Int) := by omega
    go_wp2
    go_ret
    exact ⟨rfl, HB1.out⟩
end Go.Proofs.YtoippldgoehpcaaGreatDoor
end

/- A whole slice appended, nil or not. -/
section
namespace Go.Proofs.YtoippldgoehpcaaGreatDoor
open Go Go.RowKit Go.Deep Go.Shelf

theorem run_app_none {P : Program} {w : World} (base : Nat) (t ty e : TypeId) (i : TypeInfo) (size : Nat) (ht : P.underlying t = some (.slice e)) (hi : P.info? e = some i)
    (v : Value) (n c : Nat) (xs : List Value) (hown : w.ownsRow base e size v n xs) :
    (Builtin.append_ #[t, t] ty #[v, .slice none 0 c]).run P w = .ok v w := by
  rcases hown.2 with ⟨rfl, rfl⟩ | ⟨g, cap, cur, rfl, _, _, hnc, _⟩
  · simp [Builtin.append_, run_underlying ht, sizeOf, typeInfo, hi, Builtin.lenOf, Builtin.firstCells]
  · simp [Builtin.append_, run_underlying ht, sizeOf, typeInfo, hi, Builtin.lenOf, Builtin.firstCells, hnc, storeCells]
theorem wpList_app_none {P : Program} {w : World} {ops : Array Oper} {rest : List Oper} {o : Oper} {a : Act} {Q : Exit → Act → World → Prop} (hgd : o.guard = none) (s x : Operand) (t : TypeId)
    (ho : o.op = .call { callee := .builtin .append, args := #[s, x], argTypes := #[t, t] })
    (base : Nat) (e : TypeId) (i : TypeInfo) (size : Nat) (ht : P.underlying t = some (.slice e)) (hi : P.info? e = some i)
    (v : Value) (n c : Nat) (xs : List Value) (hs : a.eval s = v) (hown : w.ownsRow base e size v n xs) (hx : a.eval x = .slice none 0 c)
    (h : wpList P ops Q rest (a.put o.dst v) w) : wpList P ops Q (o :: rest) a w := by
  refine wpList_plain hgd fun K hK => ?_
  have hrun := run_app_none (P := P) (w := w) base t o.type e i size ht hi v n c xs hown
  unfold Oper.wp
  simp [execOp, ho, resolve, invoke, builtin, hs, hx, hrun, Result.andThen]
  exact hK _ _ h
theorem rowL_nil (f : Nat → Nat → Value) (z : Nat) : rowL f z 0 = [] := by simp [rowL]
/-- append(v, x...), x a slice whose cells are known as a row. -/
theorem wpList_app_row {P : Program} {w : World} {ops : Array Oper} {rest : List Oper} {o : Oper} {a : Act} {Q : Exit → Act → World → Prop} (hgd : o.guard = none) (s x : Operand) (t : TypeId)
    (ho : o.op = .call { callee := .builtin .append, args := #[s, x], argTypes := #[t, t] })
    (base : Nat) (e : TypeId) (i : TypeInfo) (z : Value) (size bytes : Nat) (ht : P.underlying t = some (.slice e)) (hi : P.info? e = some i) (hz : i.zero = some z)
    (hsize : i.size = size) (hby : i.bytes = bytes) (hzs : z.cells.size = size) (hsz : 0 < size)
    (v : Value) (n : Nat) (xs : List Value) (hs : a.eval s = v) (hown : w.ownsRow base e size v n xs)
    (A : Option Addr) (m c : Nat) (f : Nat → Nat → Value) (hx : a.eval x = .slice A m c) (hrow : RowAt w A m size f) (h1 : ∀ k r, (f k r).oneCell' = true)
    (h63 : n + m ≤ maxLen) (hbytes : (n + m) * bytes ≤ 140737488355328) (hbase : base ≤ w.heap.size)
    (h : ∀ v' w', w'.ownsRow base e size v' (n + m) (xs ++ rowL f size m) → w.grownBy w' v.ownBlock → wpList P ops Q rest (a.put o.dst v') w') :
    wpList P ops Q (o :: rest) a w := by
  cases A with
  | none =>
    have hm : m = 0 := by
      rcases Nat.eq_zero_or_pos m with h0 | h0
      · exact h0
      · obtain ⟨b, o, h1, _⟩ := hrow h0
        cases h1
    subst hm
    refine wpList_app_none hgd s x t ho base e i size ht hi v n c xs hs hown hx (h v w ?_ ⟨rfl, rfl, rfl, Nat.le_refl _, fun _ _ _ => rfl⟩)
    rw [rowL_nil, List.append_nil]
    exact hown
  | some ad =>
    exact wpList_append_own_at w hgd s x t ho base e i z size bytes ht hi hz hsize hby hzs hsz v n xs hs hown ad m c (rowL f size m) hx (rowL_len _ _ _) (hrow.news hsz) (rowL_one h1) h63 hbytes hbase fun v' w' g1 g2 _ _ => h v' w' g1 g2
end Go.Proofs.YtoippldgoehpcaaGreatDoor
end

/- A cell's values by its coordinates: the reference. -/
section
namespace Go.Proofs.YtoippldgoehpcaaGreatDoor
open Go Go.RowKit Go.Deep Go.Shelf

theorem info_val : (Tryz.prog.info? 43).map (fun i => (i.zero, i.size, i.bytes)) = some (some (.agg #[.int .i64 0, .int .i64 0, .int .i64 0, .string ⟨#[]⟩]), 4, 40) := by kernel_rfl
/-- Is there such a cell? -/
noncomputable def getB (D : ArD) (m : Nat) (v : Nat → Int) : Bool := D.check == 0 && foundB D.N D.c m v
noncomputable def getL (D : ArD) (m : Nat) (v : Nat → Int) : Nat := if getB D m v = true then D.c.vl (placeN D.N D.c m v) else 0
/-- What Get returns. -/
def GetR (D : ArD) (m : Nat) (v : Nat → Int) (e : Ending) (w' : World) : Prop := ∃ P cc, e = .returned (.tuple #[.slice P (getL D m v) cc, .bool (getB D m v)]) ∧ ValsAt w' P (getL D m v) (D.c.vk (placeN D.N D.c m v)) (D.c.vn (placeN D.N D.c m v)) (D.c.vd (placeN D.N D.c m v)) (D.c.vs (placeN D.N D.c m v))
theorem vals_none (w : World) (a b c : Nat → Int) (d : Nat → ByteArray) : ValsAt w none 0 a b c d := fun h => absurd h (by omega)

theorem bel_new' (W : World) (o : Obj) : Below W.heap.size W (W.alloc o) := (Below.refl _ _).alloc (Nat.le_refl _) _
set_option maxRecDepth 100000 in
set_option maxHeartbeats 4000000 in
theorem ar_Get (w : World) (p : ArP) (D : ArD) (X : Option Addr) (m mc : Nat) (v : Nat → Int) (h : ArAt w p D) (ho : ArOk D) (hx : IntsAt w X m v) (hm : m ≤ 1000000) :
    Calls Tryz.prog 31 #[p.val D.n D.m D.N, .slice X m mc] w fun e w' => GetR D m v e w' ∧ Below w.heap.size w w' := by
  have KB := Lib.hid (arr_box w (.slice p.A D.n p.cap) (.slice p.B D.m p.bcap) (.slice p.C D.N p.ccap) 26)
  have HB : Hid (Below w.heap.size w (w.alloc (p.obj D.n D.m D.N))) := (Below.refl _ _).alloc (Nat.le_refl _) _
  have H1 : Hid (∀ W, Below w.heap.size w W → Calls Tryz.prog 18 #[p.val D.n D.m D.N] W fun e w' => e = .returned (.int .i64 D.check) ∧ Below W.heap.size W w') := fun W hW => ar_Check W p D (h.below hW) ho
  have H2 : Hid (∀ W, Below w.heap.size w W → Calls Tryz.prog 93 #[.slice p.C D.N p.ccap, .slice X m mc] W fun e w' => e = .returned (.int .i64 (if foundB D.N D.c m v = true then (placeN D.N D.c m v : Int) else -1)) ∧ Below W.heap.size W w') := fun W hW => r_Lookup W p.C X D.N p.ccap m mc D.c v (h.cells.below hW) (hx.below hW) ho.N1 hm
  have HC := Lib.hid h.cells
  have HO := Lib.hid ho.cS
  have hN := ho.N1
  have HF : Hid (foundB D.N D.c m v = true → placeN D.N D.c m v < D.N) := fun h => by
    unfold foundB at h
    rw [Bool.and_eq_true] at h
    exact of_decide_eq_true h.1
  have HG : Hid (getB D m v = (D.check == 0 && foundB D.N D.c m v)) := rfl
  have HL : Hid (getL D m v = if getB D m v = true then D.c.vl (placeN D.N D.c m v) else 0) := rfl
  unfold GetR
  generalize getL D m v = gl at *
  generalize getB D m v = gb at *
  clear h ho hx
  generalize D.check = ck at *
  generalize foundB D.N D.c m v = fb at *
  generalize placeN D.N D.c m v = i at *
  obtain ⟨i0, hI9, hz0, hz1, hz2⟩ := info_parts info_val
  go_enter Tryz.func31, Tryz.ntmps31
  go_wp2_with fail
  generalize w.alloc (p.obj D.n D.m D.N) = W0 at *
  obtain ⟨l0, l1, l2⟩ := KB.out W0 (Below.refl _ _)
  go_wp2_with fail
  refine (H1.out _ HB.out).mono ?_
  rintro e w1 ⟨rfl, hb1⟩
  have HB1 : Hid (Below w.heap.size w w1) := st HB.out hb1
  clear l0 l1 l2
  obtain ⟨l0, l1, l2⟩ := KB.out w1 hb1
  by_cases g1 : ck = 0
  · subst g1
    go_wp2_with fail
    refine (H2.out _ HB1.out).mono ?_
    rintro e w2 ⟨rfl, hb2⟩
    have HB2 : Hid (Below w.heap.size w w2) := st HB1.out hb2
    clear l0 l1 l2
    obtain ⟨l0, l1, l2⟩ := KB.out w2 (st hb1 hb2)
    cases fb
    · have hgb : gb = false := HG.out
      have hgl : gl = 0 := by rw [HL.out, hgb]; rfl
      subst hgb hgl
      go_wp2
      go_ret2
      exact ⟨⟨none, 0, rfl, vals_none _ _ _ _ _⟩, HB2.out⟩
    · have hgb : gb = true := HG.out
      have hgl : gl = D.c.vl i := by rw [HL.out, hgb]; rfl
      have hiN := HF.out rfl
      subst hgb
      obtain ⟨bc, oc, hce, hbc, hcc⟩ := (HC.out.below HB2.out) (by omega)
      obtain ⟨P, pc, Q, qc, x0, x1, _, x3, _⟩ := hcc i hiN
      have hvl := (HO.out i hiN).2.1
      clear HL
      rw [← hgl] at x1 x3 hvl
      clear hgl
      have HX3 := Lib.hid x3.row
      have h0 : (0 : Int) ≤ (i : Int) := by omega
      have h1 : (i : Int) < (D.N : Int) := by omega
      have h2 : ¬ (i : Int) < 0 := by omega
      rw [hce] at l2 KB
      have B3 := bel_new' w2 (.cells #[] 43)
      have B13 := st (st hb1 hb2) B3
      obtain ⟨-, -, m2⟩ := KB.out _ B13
      have x1' := (B3.cell (p := ⟨bc, oc + i * 2 + 1, none⟩) hbc).trans x1
      have HX4 := Lib.hid (HX3.out.below B3)
      have HB3 : Hid (Below w.heap.size w (w2.alloc (.cells #[] 43))) := st HB2.out B3
      clear hcc x3 HC HO x1 l0 l1 HX3 B13 B3
      go_wp2_with (at_builtin; refine wpList_app_row rfl _ _ 39 rfl w2.heap.size 43 i0 (.agg #[.int .i64 0, .int .i64 0, .int .i64 0, .string ⟨#[]⟩]) 4 40 Tryz.underlying39 hI9 hz0 hz1 hz2 rfl (by decide) _ 0 [] rfl (World.ownsRow_made w2 #[] 0 (Nat.le_refl _) (Nat.zero_le _) rfl) Q gl qc _ rfl HX4.out (valF4_one _ _ _ _) ?qc1 ?qc2 ?qc3 ?_)
      case qc1 => unfold maxLen; omega
      case qc2 => omega
      case qc3 => simp
      intro v' w4 hown hgrow
      go_wp2
      go_ret2
      obtain ⟨P', c', rfl, _, h9⟩ := RowAt.own hown
      exact ⟨⟨P', c', rfl, h9.vals⟩, HB3.out.grown hgrow (by simp; have := HB2.out.size; omega) (by intro k hk; simp [Value.ownBlock] at hk; have := HB2.out.size; omega)⟩
  · have g2 : (ck != 0) = true := by rw [bne_iff_ne]; exact g1
    have hgb : gb = false := by rw [HG.out, beq_eq_false_iff_ne.2 g1]; rfl
    have hgl : gl = 0 := by rw [HL.out, hgb]; rfl
    subst hgb hgl
    go_wp2
    go_ret2
    exact ⟨⟨none, 0, rfl, vals_none _ _ _ _ _⟩, HB1.out⟩
end Go.Proofs.YtoippldgoehpcaaGreatDoor
end
