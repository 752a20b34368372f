/- Rational numbers of any size, as Lean's own: what each call returns. -/
import Derived.Test.YtogmbehomilalaaGreatDoorZMathQ
import Derived.Test.YtogmbehomilalaaGreatDoorZSeem
import Derived.Test.YtogmbehomilalaaGreatDoorZMathD
import Derived.Test.YtogmbehomilalaaGreatDoorZSch
import Derived.Test.YtogmbehomilalaaGreatDoorZDo
import Derived.Lib.ItoaMem
import Derived.Lib.AppendIntMem
import Derived.BigCall
import Derived.BigGuard
import Derived.Test.YtogmbehomilalaaGreatDoorZGcd
import Derived.Lib.ItoaNum
import Derived.Lib.Repeat

/- Rational numbers of any size, as Lean's own: what each call returns. -/
section
namespace Go.Proofs.YtogmbehomilalaaGreatDoor
open Go.RowKit Go.Deep

/-- The value v points to the number q of the package. -/
def RatV (w : World) (v : Value) (q : Rat) : Prop := RatAt w v (decide (q.num < 0)) q.num.natAbs q.den
def RatVRet (w : World) (q : Rat) (e : Ending) (w' : World) : Prop := ∃ u, e = .returned u ∧ RatV w' u q ∧ Below w.heap.size w w'
theorem RatV.below {w w' : World} {v : Value} {q : Rat} (h : RatV w v q) (hb : Below w.heap.size w w') : RatV w' v q := RatAt.below h hb
theorem RatV.drewN {w : World} {v : Value} {q : Rat} (h : RatV w v q) (n : Nat) : RatV (w.drewN n) v q := h
theorem RatAt.toV {w : World} {v : Value} {s : Bool} {n d : Nat} {q : Rat} (h : RatAt w v s n d) (hs : s = decide (q.num < 0)) (hn : n = q.num.natAbs) (hd : d = q.den) : RatV w v q := by
  subst hs hn hd
  exact h
/-- How many words a number has at most. -/
def RatW (q : Rat) (k : Nat) : Prop := nw q.num.natAbs ≤ k ∧ nw q.den ≤ k

end Go.Proofs.YtogmbehomilalaaGreatDoor
end

/- The value of any number, and the number of any value. -/
section
namespace Go.Proofs.YtogmbehomilalaaGreatDoor
open Go Go.RowKit Go.Deep

instance instLow (n d : Int) : Decidable (Low n d) := by unfold Low; infer_instance
/-- The number of a value. -/
def qV (n d : Int) : Rat := if h : Low n d then ⟨n, d.natAbs, by have := h.2.2.1; omega, h.2.2.2.2⟩ else 0
theorem qV_num {n d : Int} (h : Low n d) : (qV n d).num = n := by unfold qV; rw [dif_pos h]
theorem qV_den {n d : Int} (h : Low n d) : (qV n d).den = d.natAbs := by unfold qV; rw [dif_pos h]
theorem sgn_num (n : Int) : sgn (decide (n < 0)) n.natAbs = decide (n < 0) := by
  unfold sgn
  by_cases h : n < 0
  · rw [decide_eq_true h, Bool.true_and, decide_eq_true_iff]; omega
  · rw [decide_eq_false h]; rfl
theorem v_rat (w : World) (n d : Int) (h : Low n d) : Calls Tryz.prog 130 #[V 2 n d noS] w (RatVRet w (qV n d)) := by
  refine (c_rat w n d h).mono ?_
  rintro e w' ⟨u, rfl, hu, hb⟩
  exact ⟨u, rfl, hu.toV (by rw [qV_num h, sgn_num]) (by rw [qV_num h]) (by rw [qV_den h]), hb⟩
theorem ratW_qV {n d : Int} (h : Low n d) : RatW (qV n d) 1 := by
  have h1 := qV_num h
  have h2 := qV_den h
  obtain ⟨a, b, c, e, _⟩ := h
  refine ⟨?_, ?_⟩
  · rw [h1, nw_le_one]; unfold W64; omega
  · rw [h2, nw_le_one]; unfold W64; omega

def Small (q : Rat) : Prop := q.num.natAbs ≤ 1099511627776 ∧ q.den ≤ 1099511627776
instance (q : Rat) : Decidable (Small q) := by unfold Small; infer_instance
theorem row_v {X : World} {b : Nat} {k n d : Int} {s : ByteArray} (h : X.heap[b]? = some (.cells #[.int .i64 k, .int .i64 n, .int .i64 d, .string s] 40 (0, 0))) :
    X.cell? ⟨b, 0, none⟩ = some (.int .i64 k) ∧ X.cell? ⟨b, 1, none⟩ = some (.int .i64 n) ∧ X.cell? ⟨b, 2, none⟩ = some (.int .i64 d) ∧ X.cell? ⟨b, 3, none⟩ = some (.string s) := by
  refine ⟨?_, ?_, ?_, ?_⟩ <;> (rw [cell_of_row _ _ _ _ _ _ h]; rfl)

end Go.Proofs.YtogmbehomilalaaGreatDoor
end

/- Does a value fit a type? Whatever both are. -/
section
namespace Go.Proofs.YtogmbehomilalaaGreatDoor
open Go.RowKit Go.Deep

/-- Does a valid value fit a type? -/
def fitB (k d t : Int) : Bool := if k = 0 then true else if t = 1 then k == 1 else if t = 2 then (k == 2 && d == 1) else if t = 3 then k == 2 else k == 3
set_option maxRecDepth 100000 in
set_option maxHeartbeats 2000000 in
theorem k_fits (k n d : Int) (s : ByteArray) (t : Int) (w : World) :
    Calls Tryz.prog 116 #[V k n d s, .int .i64 t] w fun e w' => e = .returned (.bool (fitB k d t)) ∧ Below w.heap.size w w' := by
  have HBE : Hid (Below w.heap.size w (w.alloc (.cells #[.int .i64 k, .int .i64 n, .int .i64 d, .string s] 40))) := (Below.refl _ _).alloc (Nat.le_refl _) _
  by_cases k0 : k = 0
  · subst k0
    rw [show fitB 0 d t = true from if_pos rfl]
    go_enter Tryz.func116, Tryz.ntmps116
    go_wp2
    go_ret
    exact ⟨rfl, HBE.out⟩
  by_cases t1 : t = 1
  · subst t1
    rw [show fitB k d 1 = (k == 1) by simp [fitB, k0]]
    go_enter Tryz.func116, Tryz.ntmps116
    go_wp2
    go_ret
    exact ⟨rfl, HBE.out⟩
  by_cases t2 : t = 2
  · subst t2
    by_cases k2 : k = 2
    · subst k2
      rw [show fitB 2 d 2 = (d == 1) by simp [fitB]]
      go_enter Tryz.func116, Tryz.ntmps116
      go_wp2
      go_ret
      exact ⟨rfl, HBE.out⟩
    · rw [show fitB k d 2 = false by simp [fitB, k0, k2]]
      go_enter Tryz.func116, Tryz.ntmps116
      go_wp2
      go_ret
      exact ⟨rfl, HBE.out⟩
  by_cases t3 : t = 3
  · subst t3
    rw [show fitB k d 3 = (k == 2) by simp [fitB, k0]]
    go_enter Tryz.func116, Tryz.ntmps116
    go_wp2
    go_ret
    exact ⟨rfl, HBE.out⟩
  rw [show fitB k d t = (k == 3) by simp [fitB, k0, t1, t2, t3]]
  go_enter Tryz.func116, Tryz.ntmps116
  go_wp2
  go_ret
  exact ⟨rfl, HBE.out⟩

set_option maxRecDepth 100000 in
set_option maxHeartbeats 2000000 in
theorem k_Fits (k n d : Int) (s : ByteArray) (t : Int) (w : World) :
    Calls Tryz.prog 77 #[V k n d s, .int .i64 t] w fun e w' => e = .returned (.bool (isTy t && (okB k n d s && fitB k d t))) ∧ Below w.heap.size w w' := by
  have HBE : Hid (Below w.heap.size w (w.alloc (.cells #[.int .i64 k, .int .i64 n, .int .i64 d, .string s] 40))) := (Below.refl _ _).alloc (Nat.le_refl _) _
  have HT := Lib.hid (fun W => c_isTypeB t W)
  have HV := Lib.hid (fun W => k_valid k n d s W)
  have HF := Lib.hid (fun W => k_fits k n d s t W)
  cases h1 : isTy t with
  | false =>
    rw [h1] at HT
    rw [show (false && (okB k n d s && fitB k d t)) = false from rfl]
    clear HV HF
    go_enter Tryz.func77, Tryz.ntmps77
    go_wp2_with fail
    refine (HT.out _).mono ?_
    rintro e w1 ⟨rfl, rfl⟩
    go_wp2
    go_ret
    exact ⟨rfl, HBE.out⟩
  | true =>
    rw [h1] at HT
    rw [Bool.true_and]
    cases h2 : okB k n d s with
    | false =>
      rw [h2] at HV
      rw [Bool.false_and]
      clear HF
      go_enter Tryz.func77, Tryz.ntmps77
      go_wp2_with fail
      refine (HT.out _).mono ?_
      rintro e w1 ⟨rfl, rfl⟩
      go_wp2_with fail
      refine (HV.out _).mono ?_
      rintro e w2 ⟨rfl, hb2⟩
      go_wp2
      go_ret
      exact ⟨rfl, HBE.out.trans (hb2.mono HBE.out.size)⟩
    | true =>
      rw [h2] at HV
      rw [Bool.true_and]
      generalize fitB k d t = r at *
      go_enter Tryz.func77, Tryz.ntmps77
      go_wp2_with fail
      refine (HT.out _).mono ?_
      rintro e w1 ⟨rfl, rfl⟩
      go_wp2_with fail
      refine (HV.out _).mono ?_
      rintro e w2 ⟨rfl, hb2⟩
      obtain ⟨x0, x1, x2, x3⟩ := row_v ((hb2.block _ (by simp)).trans (heap_alloc_new w _))
      go_wp2_with fail
      refine (HF.out _).mono ?_
      rintro e w3 ⟨rfl, hb3⟩
      go_wp2
      go_ret
      exact ⟨rfl, HBE.out.trans ((btr hb2 hb3).mono HBE.out.size)⟩
end Go.Proofs.YtogmbehomilalaaGreatDoor
end

/- The error of a cell. -/
section
namespace Go.Proofs.YtogmbehomilalaaGreatDoor
open Go Go.RowKit Go.Deep

/-- The values of a slice. -/
def ValsAt (w : World) (A : Option Addr) (n : Nat) (vk vn vd : Nat → Int) (vs : Nat → ByteArray) : Prop :=
  0 < n → ∃ b o, A = some ⟨b, o, none⟩ ∧ b < w.heap.size ∧ ∀ k, k < n → w.cell? ⟨b, o + k * 4, none⟩ = some (.int .i64 (vk k)) ∧ w.cell? ⟨b, o + k * 4 + 1, none⟩ = some (.int .i64 (vn k)) ∧ w.cell? ⟨b, o + k * 4 + 2, none⟩ = some (.int .i64 (vd k)) ∧ w.cell? ⟨b, o + k * 4 + 3, none⟩ = some (.string (vs k))
theorem ValsAt.below {w w' : World} {A : Option Addr} {n : Nat} {vk vn vd : Nat → Int} {vs : Nat → ByteArray} (h : ValsAt w A n vk vn vd vs) (hb : Below w.heap.size w w') : ValsAt w' A n vk vn vd vs := fun hn => by
  obtain ⟨b, o, h1, h2, h3⟩ := h hn
  refine ⟨b, o, h1, Nat.lt_of_lt_of_le h2 hb.size, fun k hk => ?_⟩
  obtain ⟨a1, a2, a3, a4⟩ := h3 k hk
  exact ⟨(hb.cell (p := ⟨b, o + k * 4, none⟩) h2).trans a1, (hb.cell (p := ⟨b, o + k * 4 + 1, none⟩) h2).trans a2, (hb.cell (p := ⟨b, o + k * 4 + 2, none⟩) h2).trans a3, (hb.cell (p := ⟨b, o + k * 4 + 3, none⟩) h2).trans a4⟩
/-- Do the first k values fit? -/
def fitTo (ty vk vn vd : Nat → Int) (vs : Nat → ByteArray) : Nat → Bool
  | 0 => true
  | k + 1 => fitTo ty vk vn vd vs k && (isTy (ty k) && (okB (vk k) (vn k) (vd k) (vs k) && fitB (vk k) (vd k) (ty k)))
theorem fitTo_le {ty vk vn vd : Nat → Int} {vs : Nat → ByteArray} {k n : Nat} (h : fitTo ty vk vn vd vs k = false) (hn : k ≤ n) : fitTo ty vk vn vd vs n = false := by
  induction n with
  | zero => obtain rfl : k = 0 := by omega
            exact h
  | succ n ih =>
    by_cases e : k = n + 1
    · rw [← e]; exact h
    · rw [fitTo, ih (by omega)]; rfl
def cellE (lo hi : Nat → Int) (n : Nat) (ty : Nat → Int) (m : Nat) (x : Nat → Int) (ln : Nat) (vk vn vd : Nat → Int) (vs : Nat → ByteArray) (vl : Nat) : Int :=
  if ln ≠ n ∨ vl ≠ m then 13 else if placeEr lo hi x n ln ≠ 0 then placeEr lo hi x n ln else if fitTo ty vk vn vd vs m = true then 0 else 12

abbrev CelV (P : Option Addr) (n c : Nat) (Q : Option Addr) (m d : Nat) : Value := .agg #[.slice P n c, .slice Q m d]
theorem cel_box (w : World) (p q : Value) (t : TypeId) (W : World) (hW : Below (w.alloc (.cells #[p, q] t)).heap.size (w.alloc (.cells #[p, q] t)) W) : W.cell? ⟨w.heap.size, 0, none⟩ = some p ∧ W.cell? ⟨w.heap.size, 1, none⟩ = some q := by
  have hb := (hW.block w.heap.size (by simp)).trans (heap_alloc_new w (.cells #[p, q] t))
  exact ⟨by rw [cell_of_row _ _ _ _ _ _ hb]; rfl, by rw [cell_of_row _ _ _ _ _ _ hb]; rfl⟩

set_option maxRecDepth 100000 in
set_option maxHeartbeats 4000000 in
theorem s_cellError (w : World) (A B P Q : Option Addr) (n cap m bcap ln pc vl qc : Nat) (nm : Nat → ByteArray) (lo hi : Nat → Int) (an : Nat → ByteArray) (ty x vk vn vd : Nat → Int) (vs : Nat → ByteArray) (hd : DimsAt w A n nm lo hi) (ha : AttrsAt w B m an ty) (hx : IntsAt w P ln x) (hv : ValsAt w Q vl vk vn vd vs) (hn : n ≤ 1000) (hm : m ≤ 1000) (hl : ln ≤ 1000) :
    Calls Tryz.prog 36 #[.slice A n cap, .slice B m bcap, CelV P ln pc Q vl qc] w fun e w' => e = .returned (.int .i64 (cellE lo hi n ty m x ln vk vn vd vs vl)) ∧ Below w.heap.size w w' := by
  have KB := Lib.hid (cel_box w (.slice P ln pc) (.slice Q vl qc) 38)
  have HB : Hid (Below w.heap.size w (w.alloc (.cells #[.slice P ln pc, .slice Q vl qc] 38))) := (Below.refl _ _).alloc (Nat.le_refl _) _
  have hzw : (w.alloc (.cells #[.slice P ln pc, .slice Q vl qc] 38)).heap.size = w.heap.size + 1 := by simp
  have HP : Hid (∀ W, Below w.heap.size w W → Calls Tryz.prog 76 #[.slice A n cap, .slice P ln pc] W fun e w' => e = .returned (.int .i64 (placeEr lo hi x n ln)) ∧ Below W.heap.size W w') := fun W hW => s_placeError W A P n cap ln pc nm lo hi x (hd.below hW) (hx.below hW) hn hl
  have HF := Lib.hid k_Fits
  have HA := Lib.hid ha
  have HV := Lib.hid hv
  obtain ⟨ve, hve⟩ : ∃ ve, cellE lo hi n ty m x ln vk vn vd vs vl = ve := ⟨_, rfl⟩
  rw [hve]
  have HE : Hid (ve = cellE lo hi n ty m x ln vk vn vd vs vl) := hve.symm
  clear hd ha hx hv hve hl
  by_cases h0 : ln = n
  · by_cases h1 : vl = m
    · subst h0 h1
      have HE1 : Hid (ve = if placeEr lo hi x ln ln ≠ 0 then placeEr lo hi x ln ln else if fitTo ty vk vn vd vs vl = true then 0 else 12) := by show _ = _; rw [HE.out, cellE, if_neg (by simp)]
      clear HE
      generalize placeEr lo hi x ln ln = pe at *
      go_enter Tryz.func36, Tryz.ntmps36
      go_wp2_with fail
      generalize w.alloc (.cells #[.slice P ln pc, .slice Q vl qc] 38) = W0 at *
      refine (HP.out _ HB.out).mono ?_
      rintro e w1 ⟨rfl, hb1⟩
      obtain ⟨l0, l1⟩ := KB.out w1 hb1
      have HB1 : Hid (Below w.heap.size w w1) := st HB.out hb1
      clear HB
      by_cases hp : pe = 0
      · subst hp
        have HE2 : Hid (ve = if fitTo ty vk vn vd vs vl = true then 0 else 12) := by show _ = _; rw [HE1.out, if_neg (by simp)]
        clear HE1
        go_wp2_with fail
        have KB1 : Hid (∀ W, Below w1.heap.size w1 W → W.cell? ⟨w.heap.size, 0, none⟩ = some (.slice P ln pc) ∧ W.cell? ⟨w.heap.size, 1, none⟩ = some (.slice Q vl qc)) := fun W hW => KB.out W (hb1.trans (hW.mono hb1.size))
        clear l0 l1
        go_loopw [8, 9, 34] (fun _ _ i wr => ∃ k : Nat, k ≤ vl ∧ i = .int .i64 k ∧ Hid (fitTo ty vk vn vd vs k = true) ∧ Hid (Below w1.heap.size w1 wr)) (fun _ _ i _ => vl - (intOf i).toNat)
        case atStart => exact ⟨0, Nat.zero_le _, rfl, rfl, Below.refl _ _⟩
        case round =>
          obtain ⟨k, hk, rfl, HK, HBr⟩ := hrel
          have HBw : Hid (Below w.heap.size w wr) := st HB1.out HBr.out
          by_cases hlt : k < vl
          · obtain ⟨bv, ov, rfl, _, hcv⟩ := (HV.out.below HBw.out) (by omega)
            obtain ⟨x0, x1, x2, x3⟩ := hcv k hlt
            obtain ⟨ba, oa, rfl, hba, hca⟩ := (HA.out.below HBw.out) (by omega)
            obtain ⟨y0, y1⟩ := hca k hlt
            clear hcv hca
            have HS : Hid (fitTo ty vk vn vd vs (k + 1) = (isTy (ty k) && (okB (vk k) (vn k) (vd k) (vs k) && fitB (vk k) (vd k) (ty k)))) := by show _ = _; rw [fitTo, HK.out, Bool.true_and]
            have HFk := Lib.hid (fun W => HF.out (vk k) (vn k) (vd k) (vs k) (ty k) W)
            generalize (isTy (ty k) && (okB (vk k) (vn k) (vd k) (vs k) && fitB (vk k) (vd k) (ty k))) = rs at *
            generalize vk k = k9 at *
            generalize vn k = n9 at *
            generalize vd k = d9 at *
            generalize vs k = s9 at *
            generalize ty k = t9 at *
            generalize an k = a9 at *
            go_wp2_with fail
            have hnw := heap_alloc_new wr (.cells #[.int .i64 k9, .int .i64 n9, .int .i64 d9, .string s9] 40)
            have HBb : Hid (Below wr.heap.size wr (wr.alloc (.cells #[.int .i64 k9, .int .i64 n9, .int .i64 d9, .string s9] 40))) := (Below.refl _ _).alloc (Nat.le_refl _) _
            have hzb : (wr.alloc (.cells #[.int .i64 k9, .int .i64 n9, .int .i64 d9, .string s9] 40)).heap.size = wr.heap.size + 1 := by simp
            generalize wr.alloc (.cells #[.int .i64 k9, .int .i64 n9, .int .i64 d9, .string s9] 40) = wb at *
            have KV : Hid (∀ W, Below wb.heap.size wb W → (W.cell? ⟨wr.heap.size, 0, none⟩ = some (.int .i64 k9) ∧ W.cell? ⟨wr.heap.size, 1, none⟩ = some (.int .i64 n9) ∧ W.cell? ⟨wr.heap.size, 2, none⟩ = some (.int .i64 d9) ∧ W.cell? ⟨wr.heap.size, 3, none⟩ = some (.string s9)) ∧ W.cell? ⟨ba, oa + k * 2 + 1, none⟩ = some (.int .i64 t9)) := fun W hW => by
              have h := (hW.block _ (by omega)).trans hnw
              refine ⟨⟨?_, ?_, ?_, ?_⟩, ((hW.mono (by omega)).cell (p := ⟨ba, oa + k * 2 + 1, none⟩) hba).trans ((HBb.out.cell (p := ⟨ba, oa + k * 2 + 1, none⟩) hba).trans y1)⟩ <;> (rw [cell_of_row _ _ _ _ _ _ h]; rfl)
            clear x0 x1 x2 x3 y0 y1 hnw
            have B0d : Below wb.heap.size wb wb.drew := Below.drew (Below.refl _ _)
            cases rs
            · have HR : Hid (ve = 12) := by show _ = _; rw [HE2.out, if_neg (by rw [fitTo_le (k := k + 1) HS.out (by omega)]; simp)]
              go_region_held3 (fun W => (W.cell? ⟨wr.heap.size, 0, none⟩ = some (.int .i64 k9) ∧ W.cell? ⟨wr.heap.size, 1, none⟩ = some (.int .i64 n9) ∧ W.cell? ⟨wr.heap.size, 2, none⟩ = some (.int .i64 d9) ∧ W.cell? ⟨wr.heap.size, 3, none⟩ = some (.string s9)) ∧ W.cell? ⟨ba, oa + k * 2 + 1, none⟩ = some (.int .i64 t9))
                (first | exact KV.out _ B1 | exact KV.out _ B0d | exact KV.out _ (Below.refl _ _))
                (first
                  | (go_at_call 77; refine (HFk.out _).mono ?_; rintro e w2 ⟨rfl, hb2⟩; have B1 : Below wb.heap.size wb w2 := st B0d hb2))
              all_goals
                go_wp2
                go_ret
                exact ⟨by rw [HR.out]; rfl, st HBw.out (st HBb.out B1)⟩
            · go_region_held3 (fun W => (W.cell? ⟨wr.heap.size, 0, none⟩ = some (.int .i64 k9) ∧ W.cell? ⟨wr.heap.size, 1, none⟩ = some (.int .i64 n9) ∧ W.cell? ⟨wr.heap.size, 2, none⟩ = some (.int .i64 d9) ∧ W.cell? ⟨wr.heap.size, 3, none⟩ = some (.string s9)) ∧ W.cell? ⟨ba, oa + k * 2 + 1, none⟩ = some (.int .i64 t9))
                (first | exact KV.out _ B1 | exact KV.out _ B0d | exact KV.out _ (Below.refl _ _))
                (first
                  | (go_at_call 77; refine (HFk.out _).mono ?_; rintro e w2 ⟨rfl, hb2⟩; have B1 : Below wb.heap.size wb w2 := st B0d hb2))
              all_goals
                go_wp2
                go_roundw
                case rel => exact ⟨k + 1, by omega, by go_num, HS, st HBr.out (st HBb.out B1)⟩
                case measure => simp [intOf]; omega
          · obtain rfl : k = vl := by omega
            go_wp2
            go_ret
            exact ⟨by rw [HE2.out, if_pos HK.out]; rfl, HBw.out⟩
      · have h1 : (pe != 0) = true := by rw [bne_iff_ne]; exact hp
        have HE2 : Hid (ve = pe) := by show _ = _; rw [HE1.out, if_pos hp]
        clear hp HE1
        go_wp2
        go_ret
        exact ⟨by rw [HE2.out]; rfl, HB1.out⟩
    · have HR : Hid (ve = 13) := by show _ = _; rw [HE.out, cellE, if_pos (.inr h1)]
      have h2 : ((vl : Int) != (m : Int)) = true := by rw [bne_iff_ne]; omega
      subst h0
      clear HE
      go_enter Tryz.func36, Tryz.ntmps36
      go_wp2
      go_ret
      exact ⟨by rw [HR.out]; rfl, HB.out⟩
  · have HR : Hid (ve = 13) := by show _ = _; rw [HE.out, cellE, if_pos (.inl h0)]
    have h2 : ((ln : Int) != (n : Int)) = true := by rw [bne_iff_ne]; omega
    clear HE
    go_enter Tryz.func36, Tryz.ntmps36
    go_wp2
    go_ret
    exact ⟨by rw [HR.out]; rfl, HB.out⟩
end Go.Proofs.YtogmbehomilalaaGreatDoor
end

/- The decimal digits of a word: what the call returns, given the library's table of powers of ten. -/
section
namespace Go.Proofs.YtogmbehomilalaaGreatDoor
open Go Go.RowKit Go.Deep Go.Sort Go.Lib Go.Shelf

/-- The library's table of powers of ten reads as the program's text lays it. -/
def Tab (w : World) : Prop := Lib.TabIs Tryz.prog w "internal/strconv.uint64pow10" .u64 Lib.pow10Tab
theorem tab_lt {w : World} (h : Tab w) : ∃ g, Tryz.prog.globalNamed "internal/strconv.uint64pow10" = some g ∧ g < w.heap.size := by
  unfold Tab Lib.TabIs World.var? at h
  cases hg : Tryz.prog.globalNamed "internal/strconv.uint64pow10" with
  | none => simp [hg] at h
  | some g =>
    refine ⟨g, rfl, ?_⟩
    rcases Nat.lt_or_ge g w.heap.size with h' | h'
    · exact h'
    · simp only [hg, Option.bind_some] at h
      rw [Array.getElem?_eq_none h'] at h; simp at h
theorem Tab.below {w w' : World} (h : Tab w) (hb : Below w.heap.size w w') : Tab w' := by
  obtain ⟨g, hg, hlt⟩ := tab_lt h
  unfold Tab Lib.TabIs World.var? at *
  simp only [hg, Option.bind_some] at h ⊢
  rw [hb.block g hlt]
  exact h
theorem Tab.drewN {w : World} (h : Tab w) (n : Nat) : Tab (w.drewN n) := h

set_option maxHeartbeats 12800000 in
set_option maxRecDepth 100000 in
theorem c_iFormatUint_big (u : Nat) (w : World) (hu : 100 ≤ u) (hu64 : u < 18446744073709551616) (htab : Tab w) :
    Calls Tryz.prog 202 #[.int .u64 u, .int .i64 10] w fun e w' => e = .returned (.string ⟨(Lib.decDigits u).toArray⟩) ∧ Below w.heap.size w w' := by
  have hu1 : 1 ≤ u := by omega
  have hnd20 : Lib.nDigits u ≤ 20 := by have := Lib.numDigits_eq u hu1 hu64; split at this <;> omega
  have hal : Tryz.prog.arrayLen 203 = 24 := by kernel_rfl
  have hsl : ∀ W, (Instr.sliceAt 203 (.pointer (some ⟨w.heap.size, 0, none⟩)) none (some (.int .i64 (Lib.nDigits u : Int))) none).run Tryz.prog W = .ok (.slice (some ⟨w.heap.size, 0, none⟩) (Lib.nDigits u) 24) W := fun W => by
    rw [run_sliceAt_array_h W 203 ⟨w.heap.size, 0, none⟩ (by simp [Program.arrayLen, Program.elem, Tryz.underlying203]) .i64 (Lib.nDigits u : Int) (by omega) (by rw [hal]; omega)]
    go_simp
  have hH0 := Lib.holds_zero0 w 203 (Lib.nDigits u) (by omega)
  have hfmt := Tryz.internal_strconv_formatBase10 w.heap.size 0 24 u (Array.replicate (Lib.nDigits u) 0) (w.alloc (.cells Lib.zeros24 203)) hH0 (by rw [Array.size_replicate]; exact Lib.lt_pow_nDigits u) hu64 (by rw [Array.size_replicate]; omega)
  rw [Array.size_replicate] at hfmt
  have hnum := Tryz.internal_strconv_numDigits u hu1 hu64 _ (Lib.tabIs_alloc htab (.cells Lib.zeros24 203))
  have HH0 := Lib.hid hH0
  have HF := Lib.hid hfmt
  have HNu := Lib.hid hnum
  have iu : (100 : Int) ≤ (u : Int) := by omega
  clear hH0 hal hfmt hnum htab
  go_enter Tryz.func202, Tryz.ntmps202
  go_wp2_with fail
  refine HNu.out.mono ?_
  rintro e w' ⟨rfl, rfl⟩
  go_wp2_with fail
  refine HF.out.mono ?_
  rintro e w' ⟨rfl, k, v', dk, rfl, hF⟩
  have hcv : (convert 111 9 (.slice (some ⟨w.heap.size, 0, none⟩) (Lib.nDigits u) 24)).run Tryz.prog ((putRow (fun (b : UInt8) => Value.int .u8 (b.toNat : Int)) (w.alloc (.cells Lib.zeros24 203)) w.heap.size 0 dk).drewN k) = .ok (.string ⟨(Lib.decDigits u).toArray⟩) ((putRow (fun (b : UInt8) => Value.int .u8 (b.toNat : Int)) (w.alloc (.cells Lib.zeros24 203)) w.heap.size 0 dk).drewN k) := by
    have h := run_convert_bytes_back (P := Tryz.prog) ((putRow (fun (b : UInt8) => Value.int .u8 (b.toNat : Int)) (w.alloc (.cells Lib.zeros24 203)) w.heap.size 0 dk).drewN k) 111 9 5 ⟨w.heap.size, 0, none⟩ 24 (Lib.decDigits u) Tryz.underlying111 Tryz.underlying5 Tryz.underlying9 (fun j hj => by
      rw [Lib.row_is_numeral hF j hj, Lib.add_plain, World.cell?_drewN]
      exact cell?_putRow (fun (b : UInt8) => Value.int .u8 (b.toNat : Int)) _ w.heap.size 0 _ dk HH0.out (by rw [hF.size, Array.size_replicate]) j (by rw [hF.size]; rw [Lib.decDigits_length] at hj; exact hj))
    rw [Lib.decDigits_length] at h
    exact h
  obtain ⟨os, eo⟩ := Lib.fin_at w (.cells Lib.zeros24 203) dk k 0
  have hnx2 : Below w.heap.size w ((putRow (fun (b : UInt8) => Value.int .u8 (b.toNat : Int)) (w.alloc (.cells Lib.zeros24 203)) w.heap.size 0 dk).drewN k) := by rw [eo]; exact Lib.below_grow w.heap.size w (Nat.le_refl _) k os
  generalize (putRow (fun (b : UInt8) => Value.int .u8 (b.toNat : Int)) (w.alloc (.cells Lib.zeros24 203)) w.heap.size 0 dk).drewN k = W2 at *
  clear eo HH0 HF HNu
  go_wp2
  go_ret
  exact ⟨rfl, hnx2⟩
theorem c_iFormatUint (u : Nat) (w : World) (hu64 : u < W64) (htab : Tab w) :
    Calls Tryz.prog 202 #[U u, .int .i64 10] w fun e w' => e = .returned (.string ⟨(Lib.decDigits u).toArray⟩) ∧ Below w.heap.size w w' := by
  rcases Nat.lt_or_ge u 100 with h | h
  · refine (c_iFormatUint_small u w h).mono ?_
    rintro e w' ⟨rfl, rfl⟩
    exact ⟨rfl, Below.refl _ _⟩
  · exact c_iFormatUint_big u w h hu64 htab
set_option maxHeartbeats 400000 in
theorem c_FormatUint (u : Nat) (w : World) (hu64 : u < W64) (htab : Tab w) :
    Calls Tryz.prog 186 #[U u, .int .i64 10] w fun e w' => e = .returned (.string ⟨(Lib.decDigits u).toArray⟩) ∧ Below w.heap.size w w' := by
  have HS := Lib.hid (c_iFormatUint u w hu64 htab)
  clear hu64 htab
  go_enter Tryz.func186, Tryz.ntmps186
  go_wp2_with fail
  refine HS.out.mono ?_
  rintro e w' ⟨rfl, hb⟩
  go_wp2
  go_ret
  exact ⟨rfl, hb⟩
end Go.Proofs.YtogmbehomilalaaGreatDoor
end

/- Decimal digits in parts. No condition. -/
section
namespace Go.Proofs.YtogmbehomilalaaGreatDoor

/-- The last k decimal digits of r. -/
def pad : Nat → Nat → List UInt8
  | 0, _ => []
  | k + 1, r => pad k (r / 10) ++ [UInt8.ofNat (48 + r % 10)]
theorem dec_small (u : Nat) (h : u < 10) : Lib.decDigits u = [UInt8.ofNat (48 + u)] := by rw [Lib.decDigits, dif_pos h]
theorem dec_big (u : Nat) (h : ¬ u < 10) : Lib.decDigits u = Lib.decDigits (u / 10) ++ [UInt8.ofNat (48 + u % 10)] := by rw [Lib.decDigits, dif_neg h]
theorem dec_ne (u : Nat) : Lib.decDigits u ≠ [] := by
  by_cases h : u < 10
  · rw [dec_small u h]; simp
  · rw [dec_big u h]; simp
theorem dec_split : ∀ (k q r : Nat), 0 < q → r < 10 ^ k → Lib.decDigits (q * 10 ^ k + r) = Lib.decDigits q ++ pad k r
  | 0, q, r, hq, hr => by
    have : r = 0 := by simpa using hr
    subst this
    simp [pad]
  | k + 1, q, r, hq, hr => by
    have e1 : (q * 10 ^ (k + 1) + r) / 10 = q * 10 ^ k + r / 10 := by rw [Nat.pow_succ, ← Nat.mul_assoc]; omega
    have e2 : (q * 10 ^ (k + 1) + r) % 10 = r % 10 := by rw [Nat.pow_succ, ← Nat.mul_assoc]; omega
    have hp : 0 < 10 ^ k := Nat.pow_pos (by decide)
    have h10 : ¬ q * 10 ^ (k + 1) + r < 10 := by
      have : 1 * 10 ≤ q * 10 ^ (k + 1) := Nat.mul_le_mul hq (by rw [Nat.pow_succ]; omega)
      omega
    rw [dec_big _ h10, e1, e2, dec_split k q (r / 10) hq (by rw [Nat.pow_succ] at hr; omega)]
    simp [pad]
theorem pad_zero : ∀ k, pad k 0 = List.replicate k 48
  | 0 => rfl
  | k + 1 => by rw [pad, Nat.zero_div, pad_zero k, List.replicate_succ']; rfl
theorem pad_eq : ∀ (k r : Nat), r < 10 ^ (k + 1) → (Lib.decDigits r).length ≤ k + 1 ∧ pad (k + 1) r = List.replicate (k + 1 - (Lib.decDigits r).length) 48 ++ Lib.decDigits r
  | 0, r, hr => by
    have h : r < 10 := by simpa using hr
    rw [dec_small r h]
    simp [pad, Nat.mod_eq_of_lt h]
  | k + 1, r, hr => by
    by_cases h : r < 10
    · rw [dec_small r h, pad, Nat.div_eq_of_lt h, Nat.mod_eq_of_lt h, pad_zero]
      simp
    · obtain ⟨h1, h2⟩ := pad_eq k (r / 10) (by rw [Nat.pow_succ] at hr; omega)
      rw [dec_big r h, pad, h2]
      refine ⟨by simp; omega, ?_⟩
      rw [List.append_assoc, List.length_append]
      congr 2
      simp
theorem repeat_zero : ∀ c, Lib.repeatL [48] c = List.replicate c 48
  | 0 => rfl
  | c + 1 => by rw [Lib.repeatL, repeat_zero c, List.replicate_succ]; rfl
theorem dec_len_le (k u : Nat) (h : u < 10 ^ (k + 1)) : (Lib.decDigits u).length ≤ k + 1 := (pad_eq k u h).1
theorem W64_le_10 (n : Nat) : W64 ^ n ≤ 10 ^ (20 * n) := by
  rw [Nat.pow_mul]
  exact Nat.pow_le_pow_left (by decide) n
theorem dec_len_words (x n : Nat) (h : x < W64 ^ n) (hn : 0 < n) : (Lib.decDigits x).length ≤ 20 * n := by
  have h1 := Nat.lt_of_lt_of_le h (W64_le_10 n)
  obtain ⟨k, hk⟩ : ∃ k, 20 * n = k + 1 := ⟨20 * n - 1, by omega⟩
  rw [hk] at h1 ⊢
  exact dec_len_le k x h1
/-- Taking the last 19 digits off. -/
theorem dec_step (y : Nat) (hy : 0 < y / 10000000000000000000) : Lib.decDigits y = Lib.decDigits (y / 10000000000000000000) ++ (List.replicate (19 - (Lib.decDigits (y % 10000000000000000000)).length) 48 ++ Lib.decDigits (y % 10000000000000000000)) := by
  have hr : y % 10000000000000000000 < 10 ^ (18 + 1) := Nat.mod_lt _ (by decide)
  rw [← (pad_eq 18 _ hr).2]
  have := dec_split 19 (y / 10000000000000000000) (y % 10000000000000000000) hy hr
  rw [show (10 : Nat) ^ 19 = 10000000000000000000 by decide] at this
  have e := Nat.div_add_mod y 10000000000000000000
  rw [Nat.mul_comm] at e
  rw [e] at this
  exact this
theorem dec_rest_len (y : Nat) : (Lib.decDigits (y % 10000000000000000000)).length ≤ 19 := (pad_eq 18 _ (Nat.mod_lt _ (by decide))).1
theorem flat_len : ∀ (l : List (List UInt8)), (∀ a ∈ l, a ≠ []) → l.length ≤ l.reverse.flatten.length := by
  intro l
  induction l with
  | nil => intro _; simp
  | cons a l ih =>
    intro h
    have h1 := ih fun b hb => h b (List.mem_cons_of_mem _ hb)
    have h2 : 0 < a.length := List.length_pos_iff.2 (h a (List.mem_cons_self ..))
    have h3 : [a].flatten.length = a.length := by simp
    rw [List.reverse_cons, List.flatten_append, List.length_append, List.length_cons]
    omega
theorem flat_snoc (l : List (List UInt8)) (a : List UInt8) : (l ++ [a]).reverse.flatten = a ++ l.reverse.flatten := by simp
theorem flat_drop (l : List (List UInt8)) (k : Nat) (hk : k < l.length) : (l.drop k).reverse.flatten = (l.drop (k + 1)).reverse.flatten ++ l[k] := by
  have h3 : [l[k]].flatten = l[k] := by simp
  rw [List.drop_eq_getElem_cons hk, List.reverse_cons, List.flatten_append, h3]
end Go.Proofs.YtogmbehomilalaaGreatDoor
end
