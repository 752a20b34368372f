/- A strings.Builder, written to; digits of numbers below 100. -/
import Derived.Test.YtnfncdalneifnaaGreatDoorZAdd
import Derived.Lib.Builder
import Derived.Lib.AppendStr
import Derived.Lib.UnsafeStr
import Derived.Laws.Externs

/- A strings.Builder, written to; digits of numbers below 100. -/
section
namespace Go.Proofs.YtnfncdalneifnaaGreatDoor
open Go.RowKit Go.Deep

theorem info_bld : (Tryz.prog.info? 122).map (·.size) = some 2 := by kernel_rfl
theorem lies_bld : liesAt Tryz.prog Tryz.prog.depth 122 (2 / Tryz.prog.cellsOf 122) 0 122 1 = true := by kernel_rfl
theorem info_u8 : (Tryz.prog.info? 5).map (fun i => (i.zero, i.size, i.bytes)) = some (some (.int .u8 0), 1, 1) := by kernel_rfl

set_option maxRecDepth 100000 in
set_option maxHeartbeats 400000 in
theorem b_copyCheck_fresh (w : World) (b : Nat) (h0 : w.cell? ⟨b, 0, none⟩ = some (.pointer none)) (hsh : w.shape? b = some (122, 2)) (hfz : w.frozen? ⟨b, 0, none⟩ = false) :
    Calls Tryz.prog 147 #[.pointer (some ⟨b, 0, none⟩)] w fun e w' => e = .returned (.tuple #[]) ∧ w' = w.setCell ⟨b, 0, none⟩ (.pointer (some ⟨b, 0, none⟩)) := by
  obtain ⟨j, hj, hjs⟩ := Option.map_eq_some_iff.1 info_bld
  go_enter Tryz.func147, Tryz.ntmps147
  go_wp2
  rw [Lib.run_to_unsafe w ⟨b, 0, none⟩ Tryz.underlying119 Tryz.underlying186 hj (by rw [hjs]; decide) hsh (Nat.zero_lt_succ 1)]
  simp only [Result.andThen]
  rw [Oper.upon_value]
  go_wp2
  rw [run_callFunc_extern Tryz.func177 (by kernel_rfl) (by kernel_rfl) (by kernel_rfl) (e := Extern.AbiNoEscape.same) (by kernel_rfl)]
  rw [Lib.run_noEscape]
  simp only [Result.andThen]
  rw [Oper.upon_value]
  go_wp2
  rw [Lib.run_from_unsafe w ⟨b, 0, none⟩ Tryz.underlying186 Tryz.underlying119 hj hsh lies_bld]
  simp only [Result.andThen]
  rw [Oper.upon_value]
  go_wp2
  go_end0
  exact ⟨rfl, rfl⟩
set_option maxRecDepth 100000 in
set_option maxHeartbeats 400000 in
theorem b_copyCheck_used (w : World) (b : Nat) (h0 : w.cell? ⟨b, 0, none⟩ = some (.pointer (some ⟨b, 0, none⟩))) :
    Calls Tryz.prog 147 #[.pointer (some ⟨b, 0, none⟩)] w fun e w' => e = .returned (.tuple #[]) ∧ w' = w := by
  obtain ⟨j, hj, _⟩ := Option.map_eq_some_iff.1 info_bld
  go_enter Tryz.func147, Tryz.ntmps147
  go_wp2
  rw [Lib.run_neq_ptr_same w _ Tryz.underlying119 hj]
  go_wp2
  go_end0
  exact ⟨rfl, rfl⟩
theorem b_copyCheck (B b : Nat) (bs : List Value) (w : World) (h : Lib.IsBuilder 122 5 B b bs w) :
    Calls Tryz.prog 147 #[.pointer (some ⟨b, 0, none⟩)] w fun e w' => e = .returned (.tuple #[]) ∧ (Lib.BuilderAt 122 5 B b (.pointer (some ⟨b, 0, none⟩)) bs w' ∧ Below B w w') := by
  rcases h with h | h
  · refine (b_copyCheck_fresh w b h.cell0 h.shape h.frozen0).mono ?_
    rintro e w' ⟨rfl, rfl⟩
    exact ⟨rfl, h.used _, (Below.refl B w).setCell (p := ⟨b, 0, none⟩) h.1 _⟩
  · refine (b_copyCheck_used w b h.cell0).mono ?_
    rintro e w' ⟨rfl, rfl⟩
    exact ⟨rfl, h, Below.refl B _⟩

set_option maxHeartbeats 2000000 in
set_option maxRecDepth 100000 in
theorem b_WriteString (B b : Nat) (bs : List Value) (s : ByteArray) (w : World) (h : Lib.IsBuilder 122 5 B b bs w) (hlen : bs.length + s.size ≤ 140737488355328) (hBw : B ≤ w.heap.size) :
    Calls Tryz.prog 85 #[.pointer (some ⟨b, 0, none⟩), .string s] w fun e w' => e = .returned (.tuple #[.int .i64 s.size, .nilIface]) ∧ (Lib.BuilderAt 122 5 B b (.pointer (some ⟨b, 0, none⟩)) (bs ++ Lib.strCells s) w' ∧ Below B w w') := by
  obtain ⟨i0, hi, hz0, hz1, hz2⟩ := info_parts info_u8
  have HCC := Lib.hid (b_copyCheck B b bs w h)
  go_enter Tryz.func85, Tryz.ntmps85
  go_wp2_with (go_at_call 147; refine HCC.out.mono ?_)
  rintro e w1 ⟨rfl, h1, hb1⟩
  obtain ⟨hB, v, hbk, hown, hne⟩ := h1
  have c0 : w1.cell? ⟨b, 0, none⟩ = some (.pointer (some ⟨b, 0, none⟩)) := by rw [Lib.cell_of_heap hbk]; rfl
  have c1 : w1.cell? ⟨b, 1, none⟩ = some v := by rw [Lib.cell_of_heap hbk]; rfl
  go_wp2_with (at_builtin; refine Lib.wpList_append_own_string _ rfl _ _ 120 9 rfl B 5 i0 Tryz.underlying120 Tryz.underlying9 hi hz0 hz1 hz2 _ _ _ rfl hown s rfl ?c3 ?c4 ?c5 ?_)
  case c3 => unfold maxLen; omega
  case c4 => omega
  case c5 => have := hb1.size; omega
  intro v' w2 hown' hgrow _
  have hlt : b < w1.heap.size := by
    rcases Nat.lt_or_ge b w1.heap.size with h' | h'
    · exact h'
    · simp [Array.getElem?_eq_none h'] at hbk
  have hb2 : w2.heap[b]? = some (.cells #[.pointer (some ⟨b, 0, none⟩), v] 122 (0, 0)) := by
    rw [hgrow.block b hlt (fun e => hne e.symm)]
    exact hbk
  have d0 : w2.cell? ⟨b, 0, none⟩ = some (.pointer (some ⟨b, 0, none⟩)) := by rw [Lib.cell_of_heap hb2]; rfl
  have d1 : w2.cell? ⟨b, 1, none⟩ = some v := by rw [Lib.cell_of_heap hb2]; rfl
  have f1 : w2.frozen? ⟨b, 1, none⟩ = false := Lib.frozen_of_heap hb2 1
  obtain ⟨ao, n', cap, rfl⟩ : ∃ ao n' cap, v' = .slice ao n' cap := by
    rcases hown'.2 with ⟨hv, _⟩ | ⟨g, cap, cur, hv, _⟩
    · exact ⟨_, _, _, hv⟩
    · exact ⟨_, _, _, hv⟩
  go_wp2
  go_ret2
  refine ⟨rfl, ?_, ?_⟩
  · exact Lib.BuilderAt.put (T := 122) (e := 5) hB hb2 (bs' := bs ++ Lib.strCells s) (by simpa [Lib.strCells_length] using hown') (by decide)
  · exact (hb1.grown hgrow (by have := hb1.size; omega) (fun k hk => (hown.lt k hk).1)).setCell (p := ⟨b, 1, none⟩) hB _
end Go.Proofs.YtnfncdalneifnaaGreatDoor
end

/- The digits of numbers below 100. -/
section
namespace Go.Proofs.YtnfncdalneifnaaGreatDoor
open Go.RowKit Go.Deep

set_option maxHeartbeats 400000 in
theorem c_iFormatUint_small (x : Nat) (w : World) (hx : x < 100) :
    Calls Tryz.prog 141 #[U x, .int .i64 10] w fun e w' => e = .returned (.string ⟨(Lib.decDigits x).toArray⟩) ∧ w = w' := by
  have HS := Lib.hid (Tryz.internal_strconv_small x hx w)
  have hx1 : (x : Int) < 100 := by omega
  clear hx
  go_enter Tryz.func141, Tryz.ntmps141
  go_wp2_with fail
  refine HS.out.mono ?_
  rintro e w' ⟨rfl, rfl⟩
  go_wp2
  go_ret
  exact ⟨rfl, rfl⟩
set_option maxHeartbeats 400000 in
theorem c_FormatUint_small (x : Nat) (w : World) (hx : x < 100) :
    Calls Tryz.prog 81 #[U x, .int .i64 10] w fun e w' => e = .returned (.string ⟨(Lib.decDigits x).toArray⟩) ∧ w = w' := by
  have HS := Lib.hid (c_iFormatUint_small x w hx)
  clear hx
  go_enter Tryz.func81, Tryz.ntmps81
  go_wp2_with fail
  refine HS.out.mono ?_
  rintro e w' ⟨rfl, rfl⟩
  go_wp2
  go_ret
  exact ⟨rfl, rfl⟩

theorem ret_s {a b : ByteArray} (h : a = b) : Ending.returned (.string a) = .returned (.string b) := by rw [h]
theorem dec_len (x : Nat) (hx : x < 100) : (Lib.decDigits x).length ≤ 20 := by
  rw [Lib.decDigits]
  split
  · simp
  · rw [Lib.decDigits, dif_pos (by omega)]; simp
theorem info_str : (Tryz.prog.info? 9).map (fun i => (i.zero, i.size, i.bytes)) = some (some (.string ⟨#[]⟩), 1, 16) := by kernel_rfl

set_option maxHeartbeats 2000000 in
theorem c_decimal_small (w : World) (v : Value) (x : Nat) (h : NatAt w v x) (hx : x < 100) (h0 : 0 < x) :
    Calls Tryz.prog 43 #[v] w fun e w' => e = .returned (.string ⟨(Lib.decDigits x).toArray⟩) ∧ Below w.heap.size w w' := by
  have hxw : x < W64 := by unfold W64; omega
  have hnw : nw x = 1 := nw_one x h0 hxw
  obtain ⟨A, c, rfl, h1, h2, h3⟩ := h
  rw [hnw] at h3 h1 ⊢
  have HCl := Lib.hid (c_Clone w _ A 1 c (dig x) h3 (Nat.le_refl _) (by omega) (by omega))
  have HDA : Hid (DivAll x 10000000000000000000 1) := by
    have := divAll_one x 10000000000000000000 hxw (by omega)
    rw [hnw] at this
    exact this
  have HX1 : Hid (x < W64 ^ 1) := by show _ < _; rw [Nat.pow_one]; exact hxw
  have HQ : Hid (x / 10000000000000000000 = 0 ∧ x % 10000000000000000000 = x) := ⟨Nat.div_eq_of_lt (by omega), Nat.mod_eq_of_lt (by omega)⟩
  obtain ⟨i0, hi0, hz0, hz1, hz2⟩ := info_parts info_str
  have HI := Lib.hid hi0
  have HZ0 := Lib.hid hz0
  have HZ1 := Lib.hid hz1
  have HZ2 := Lib.hid hz2
  clear h1 h3 hnw hi0 hz0 hz1 hz2
  go_enter Tryz.func43, Tryz.ntmps43
  go_wp2_with fail
  refine HCl.out.mono ?_
  rintro e w1 ⟨b, cap, F, rfl, hb, hcap, hcap2, hrow, hF, hbel⟩
  have HF := Lib.hid hF
  clear hF HCl
  go_wp2
  refine wp_loop_rounds 2 ?_
  rw [rounds_succ]
  go_wp2_with fail
  have HDI : Hid (Calls Tryz.prog 82 #[.slice (some ⟨b, 0, none⟩) 1 cap, .int .u64 10000000000000000000] w1 fun e w' => ∃ F', e = .returned (U x) ∧ w'.rowIs b 71 cap F' ∧ (∀ j, j < 1 → F' j = U (dig 0 j)) ∧ Below b w1 w' ∧ w'.heap.size = w1.heap.size) := by
    have h9 := c_divideInPlace w1 b 1 cap cap x 10000000000000000000 F hrow HF.out hcap (by omega) HX1.out (by omega) HDA.out
    rw [HQ.out.1, HQ.out.2] at h9
    exact h9
  refine HDI.out.mono ?_
  rintro e w2 ⟨F', rfl, hrow', hF', hbel', hsz'⟩
  have HF' := Lib.hid hF'
  have HSZ := Lib.hid hsz'
  clear hF' hsz' HDI
  go_wp2_with fail
  refine (c_FormatUint_small x w2 hx).mono ?_
  rintro e w' ⟨rfl, rfl⟩
  generalize hds : Lib.decDigits x = ds
  have HDS := Lib.hid hds
  clear hds
  go_wp2_with fail
  refine (c_trimmed _ w2.heap.size (some ⟨b, 0, none⟩) 1 cap 0 (fun _ => ⟨b, 0, rfl, hrow'.lt, fun k hk => by rw [Nat.zero_add, hrow'.cell (by omega), HF'.out k hk]⟩) (by unfold W64; omega) hcap hcap2).mono ?_
  rintro e w'' ⟨rfl, rfl⟩
  rw [nw_zero]
  have hz2' : w1.heap.size ≤ w2.heap.size := Nat.le_of_eq HSZ.out.symm
  have HN2 : Hid (∀ (j : Nat) (u : Value), [Value.string ⟨ds.toArray⟩][j]? = some u → (w2.alloc (.cells #[.string ⟨ds.toArray⟩] 9)).cell? ((⟨w2.heap.size, 0, none⟩ : Addr).add j) = some u) := by
    intro j u hu
    have hj : j = 0 := by
      rcases j with _ | j
      · rfl
      · simp at hu
    subst hj
    have hu' : u = .string ⟨ds.toArray⟩ := by simpa using hu.symm
    subst hu'
    exact (World.rowIs_alloc w2 #[.string ⟨ds.toArray⟩] 9 (fun _ => .string ⟨ds.toArray⟩) (fun i hi => by
      have h9 : i = 0 := by simpa using hi
      subst h9
      rfl)).cell (i := 0) (by simp)
  have HN3 : Hid (∀ u ∈ [Value.string ⟨ds.toArray⟩], u.oneCell' = true) := by
    intro u hu
    have hu' : u = .string ⟨ds.toArray⟩ := by simpa using hu
    subst hu'; rfl
  go_wp2_with (at_builtin; refine wpList_append_own _ rfl (.tmp 30) (.tmp 32) _ rfl w2.heap.size 9 i0 (.string ⟨#[]⟩) 1 16 Tryz.underlying114 HI.out HZ0.out HZ1.out HZ2.out rfl (Nat.zero_lt_one) (.slice none 0 0) 0 [] rfl (World.ownsRow_nil _ _ _ _) ⟨w2.heap.size, 0, none⟩ 1 1 [.string ⟨ds.toArray⟩] rfl rfl HN2.out HN3.out (by decide) (by decide) (by simp) ?_; intro v' w3 hown hgrow _)
  obtain ⟨g1, cap1, rfl, hg1, hc1⟩ : ∃ g1 cap1, v' = .slice (some ⟨g1, 0, none⟩) 1 cap1 ∧ g1 < w3.heap.size ∧ w3.cell? ⟨g1, 0, none⟩ = some (.string ⟨ds.toArray⟩) := by
    rw [Nat.zero_add, List.nil_append] at hown
    rcases hown.2 with ⟨_, h9⟩ | ⟨g1, cap1, cur, rfl, hge, hh, hnc, hcm, hcur, htake⟩
    · omega
    · refine ⟨g1, cap1, rfl, (Array.getElem?_eq_some_iff.1 hh).1, ?_⟩
      rw [cell_of_row _ _ _ _ _ _ hh]
      have h9 : (cur.toList.take 1)[0]? = some (.string ⟨ds.toArray⟩) := by
        have := htake
        rw [Nat.one_mul] at this
        rw [this]; rfl
      rw [List.getElem?_take_of_lt (by omega), Array.getElem?_toList] at h9
      exact h9
  have hb3 : Below w.heap.size w w3 := by
    have e1 : Below w.heap.size w w2 := hbel.trans (hbel'.mono hb)
    exact (e1.alloc (by have := e1.size; omega) _).grown hgrow (by have := e1.size; simp; omega) (fun k hk => by simp [Value.ownBlock] at hk)
  have HB3 := Lib.hid hb3
  have hz3 := hb3.size
  clear hown hgrow hb3 hrow hrow' HN2 HN3
  rw [rounds_succ]
  go_wp2
  refine wp_loop_rounds 2 ?_
  rw [rounds_succ]
  have hIB := Lib.hid (Lib.fresh_isBuilder 122 5 w3)
  have hdl : ds.length ≤ 20 := by
    rw [← HDS.out, Lib.decDigits]
    split
    · simp
    · rw [Lib.decDigits, dif_pos (by omega)]; simp
  have HWS := Lib.hid (b_WriteString w3.heap.size w3.heap.size [] ⟨ds.toArray⟩ _ hIB.out (by simp [ByteArray.size]; omega) (by simp))
  go_wp2_with fail
  refine HWS.out.mono ?_
  rintro e w4 ⟨rfl, hba, hb4⟩
  have HBA : Hid (Lib.IsBuilder 122 5 w3.heap.size w3.heap.size (Lib.byteCells ds) w4) := .inr hba
  have HB4 : Hid (Below w.heap.size w w4) := (HB3.out.alloc (by omega) _).trans (hb4.mono hz3)
  have hz4 := hb4.size
  clear hba hb4 HWS
  go_wp2_with fail
  rw [rounds_succ]
  go_wp2_with fail
  refine (Tryz.Builder_String_any w3.heap.size w3.heap.size ds w4 HBA.out (by simp at hz4; omega)).mono ?_
  rintro e w5 ⟨rfl, hb5⟩
  have HB5 : Hid (Below w.heap.size w w5) := HB4.out.trans (hb5.mono hz3)
  go_wp2
  go_ret
  exact ⟨by rw [HDS.out]; rfl, HB5.out⟩
set_option maxHeartbeats 400000 in
theorem c_decimal_zero (w : World) (v : Value) (h : NatAt w v 0) :
    Calls Tryz.prog 43 #[v] w fun e w' => e = .returned (.string ⟨(Lib.decDigits 0).toArray⟩) ∧ Below w.heap.size w w' := by
  obtain ⟨A, c, rfl, h1, h2, h3⟩ := h
  rw [nw_zero]
  have HD : Hid (Lib.decDigits 0 = [48]) := by show _ = _; rw [Lib.decDigits]; rfl
  clear h1 h2 h3
  go_enter Tryz.func43, Tryz.ntmps43
  go_wp2
  go_ret
  exact ⟨by rw [HD.out]; rfl, Below.refl _ _⟩
theorem c_decimal (w : World) (v : Value) (x : Nat) (h : NatAt w v x) (hx : x < 100) :
    Calls Tryz.prog 43 #[v] w fun e w' => e = .returned (.string ⟨(Lib.decDigits x).toArray⟩) ∧ Below w.heap.size w w' := by
  by_cases h0 : x = 0
  · subst h0; exact c_decimal_zero w v h
  · exact c_decimal_small w v x h hx (by omega)
/-- The string of a number, as bytes. -/
def ratText (neg : Bool) (n d : Nat) : List UInt8 := (if neg then [45] else []) ++ Lib.decDigits n ++ (if d = 1 then [] else 47 :: Lib.decDigits d)

set_option maxHeartbeats 1000000 in
theorem c_Text (w : World) (v : Value) (neg : Bool) (n d : Nat) (h : RatAt w v neg n d) (hn1 : n < 100) (hd1 : d < 100) :
    Calls Tryz.prog 8 #[v] w fun e w' => e = .returned (.string ⟨(ratText neg n d).toArray⟩) ∧ Below w.heap.size w w' := by
  have HV := Lib.hid (c_valid w v neg n d h)
  obtain ⟨b, nv, dv, rfl, hlt, _, h1, h2, h3, hn, hd⟩ := h
  have HDN := Lib.hid (c_decimal w nv n hn hn1)
  have HT : Hid (ratText neg n d = (if neg then [45] else []) ++ Lib.decDigits n ++ (if d = 1 then [] else 47 :: Lib.decDigits d)) := rfl
  have HDD : Hid (∀ W, Below w.heap.size w W → Calls Tryz.prog 43 #[dv] W fun e w' => e = .returned (.string ⟨(Lib.decDigits d).toArray⟩) ∧ Below W.heap.size W w') := fun W hW => c_decimal W dv d (hd.below hW) hd1
  have HO : Hid (∀ W, Below w.heap.size w W → Calls Tryz.prog 44 #[dv] W fun e w' => e = .returned (.bool (isOneB d)) ∧ W = w') := fun W hW => n_isOne W dv d (hd.below hW)
  clear hn hd
  by_cases hd0 : d = 1
  · have HB : Hid (isOneB d = true) := by show (d == 1) = true; simp [hd0]
    have HT' : Hid (ratText neg n d = (if neg then [45] else []) ++ Lib.decDigits n) := by show _ = _; rw [HT.out, if_pos hd0, List.append_nil]
    clear hd0 HT
    cases neg
    all_goals
      go_enter Tryz.func8, Tryz.ntmps8
      go_wp2_with fail
      refine HV.out.mono ?_
      rintro e w' ⟨rfl, rfl⟩
      go_wp2_with fail
      refine HDN.out.mono ?_
      rintro e w1 ⟨rfl, hb⟩
      have hdn := dec_len n hn1
      generalize Lib.decDigits n = dn at *
      have c1 := (hb.cell (p := ⟨b, 1, none⟩) hlt).trans h1
      have c3 := (hb.cell (p := ⟨b, 3, none⟩) hlt).trans h3
      go_wp2_with fail
      refine (HO.out _ hb).mono ?_
      rintro e w' ⟨rfl, rfl⟩
      rw [HB.out]
      go_wp2
      go_ret
      refine ⟨?_, hb⟩
      rw [HT'.out]
      exact ret_s (by apply ByteArray.ext; simp)
  · have HB : Hid (isOneB d = false) := by show (d == 1) = false; simp [hd0]
    have HT' : Hid (ratText neg n d = (if neg then [45] else []) ++ Lib.decDigits n ++ (47 :: Lib.decDigits d)) := by show _ = _; rw [HT.out, if_neg hd0]
    clear hd0 HT
    cases neg
    all_goals
      go_enter Tryz.func8, Tryz.ntmps8
      go_wp2_with fail
      refine HV.out.mono ?_
      rintro e w' ⟨rfl, rfl⟩
      go_wp2_with fail
      refine HDN.out.mono ?_
      rintro e w1 ⟨rfl, hb⟩
      have hdn := dec_len n hn1
      generalize Lib.decDigits n = dn at *
      have c1 := (hb.cell (p := ⟨b, 1, none⟩) hlt).trans h1
      have c3 := (hb.cell (p := ⟨b, 3, none⟩) hlt).trans h3
      go_wp2_with fail
      refine (HO.out _ hb).mono ?_
      rintro e w' ⟨rfl, rfl⟩
      rw [HB.out]
      go_wp2_with fail
      refine (HDD.out _ hb).mono ?_
      rintro e w2 ⟨rfl, hb2⟩
      have hdd := dec_len d hd1
      generalize Lib.decDigits d = dd at *
      go_wp2
      go_ret
      refine ⟨?_, btr hb hb2⟩
      rw [HT'.out]
      exact ret_s (by apply ByteArray.ext; simp)
end Go.Proofs.YtnfncdalneifnaaGreatDoor
end
