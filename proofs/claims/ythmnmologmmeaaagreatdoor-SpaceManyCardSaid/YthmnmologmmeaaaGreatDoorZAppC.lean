/- From the row's condition to the walk: databases. -/
import Derived.Test.YthmnmologmmeaaaGreatDoorZArE
import Derived.Test.YthmnmologmmeaaaGreatDoorZMk
import Derived.Test.YthmnmologmmeaaaGreatDoorZArG
import Derived.Test.YthmnmologmmeaaaGreatDoorZCop
import Derived.Maps.AppendAt

/- From the row's condition to the walk: databases. -/
section
namespace Go.Proofs.YthmnmologmmeaaaGreatDoor
open Go Go.ChangeShapes Go.WideShapes Go.ChangeAt Go.RowKit

/-- A database lies in the slice at A. -/
def DbR (w : World) (A : Option Addr) (N : Nat) (nm : Nat → ByteArray) (P : Nat → ArP) (D : Nat → ArD) : Prop :=
  0 < N → ∃ b o, A = some ⟨b, o, none⟩ ∧ b < w.heap.size ∧ ∀ k, k < N → (w.cell? ⟨b, o + k * 4, none⟩ = some (.string (nm k)) ∧ w.cell? ⟨b, o + k * 4 + 1, none⟩ = some (.slice (P k).A (D k).n (P k).cap) ∧ w.cell? ⟨b, o + k * 4 + 2, none⟩ = some (.slice (P k).B (D k).m (P k).bcap) ∧ w.cell? ⟨b, o + k * 4 + 3, none⟩ = some (.slice (P k).C (D k).N (P k).ccap)) ∧ ArR w (P k) (D k)
theorem DbR.below {w w' : World} {A : Option Addr} {N : Nat} {nm : Nat → ByteArray} {P : Nat → ArP} {D : Nat → ArD} (h : DbR w A N nm P D) (hb : Below w.heap.size w w') : DbR w' A N nm P D := fun hn => by
  obtain ⟨b, o, h1, h2, h3⟩ := h hn
  refine ⟨b, o, h1, Nat.lt_of_lt_of_le h2 hb.size, fun k hk => ?_⟩
  obtain ⟨⟨a1, a2, a3, a4⟩, a5⟩ := h3 k hk
  exact ⟨⟨(hb.cell (p := ⟨b, o + k * 4, none⟩) h2).trans a1, (hb.cell (p := ⟨b, o + k * 4 + 1, none⟩) h2).trans a2, (hb.cell (p := ⟨b, o + k * 4 + 2, none⟩) h2).trans a3, (hb.cell (p := ⟨b, o + k * 4 + 3, none⟩) h2).trans a4⟩, a5.below hb⟩
theorem namedF : ∃ f0 f1 : Field, Tryz.prog.underlying 49 = some (.struct #[f0, f1]) ∧ f0.type = 9 ∧ f0.offset = 0 ∧ f1.type = 29 ∧ f1.offset = 1 :=
  ⟨_, _, Tryz.underlying49, rfl, rfl, rfl, rfl⟩
section
variable {H : Type} {enc : TypeId × Value → H} {w : World} {base : Nat} {spare : Nat → Bool} {held : Bool}
set_option maxRecDepth 100000 in
theorem open_named {fuel : Nat} {c0 c1 c2 c3 : Value} {y : DataW H × List MemPlace} (h : DataW.trod enc Tryz.prog w base spare held fuel 49 [c0, c1, c2, c3] = some y) :
    ∃ (s : ByteArray) (P : ArP) (D : ArD), c0 = .string s ∧ s.size ≤ 9223372036854775807 ∧ c1 = .slice P.A D.n P.cap ∧ c2 = .slice P.B D.m P.bcap ∧ c3 = .slice P.C D.N P.ccap ∧ ArR w P D := by
  obtain ⟨f0, f1, hu, t0, o0, t1, o1⟩ := namedF
  obtain ⟨xs, n9, _, _, _, hlen, hf⟩ := DataW.trod_struct hu h
  have l0 : 0 < xs.length := by rw [hlen]; simp
  have l1 : 1 < xs.length := by rw [hlen]; simp
  have q0 := hf 0 f0 rfl
  have q1 := hf 1 f1 rfl
  have ci : Tryz.prog.cellsOf 9 = 1 := by kernel_rfl
  have cv : Tryz.prog.cellsOf 29 = 3 := by kernel_rfl
  rw [t0, o0, ci, List.getElem?_eq_getElem l0] at q0
  rw [t1, o1, cv, List.getElem?_eq_getElem l1] at q1
  have q1' : DataW.trod enc Tryz.prog w base spare held n9 29 [c1, c2, c3] = some xs[1] := by simpa using q1
  obtain ⟨s, e0, _, l9⟩ := DataW.trod_string Tryz.underlying9 q0
  obtain ⟨A, n, cap, B, m, bcap, C, N, ccap, nm, lo, hi, an, ty, ln, vl, x, vk, vn, vd, vs, rfl, rfl, rfl, hR⟩ := open_arr q1'
  exact ⟨s, ⟨A, cap, B, bcap, C, ccap⟩, ⟨n, nm, lo, hi, m, an, ty, N, ⟨ln, vl, x, vk, vn, vd, vs⟩⟩, by simpa using e0, l9, rfl, rfl, rfl, hR⟩
theorem open_db {fuel : Nat} {A : Option Addr} {n cap : Nat} {x : DataW H × List MemPlace} (h : DataW.trod enc Tryz.prog w base spare held fuel 51 [.slice A n cap] = some x) :
    ∃ (nm : Nat → ByteArray) (P : Nat → ArP) (D : Nat → ArD), DbR w A n nm P D ∧ n ≤ 9223372036854775807 ∧ ∀ k, k < n → (nm k).size ≤ 9223372036854775807 := by
  have c4 : Tryz.prog.cellsOf 49 = 4 := by kernel_rfl
  rcases DataW.trod_slice Tryz.underlying51 h with ⟨h0, _⟩ | ⟨a, len, cap', elems, rest, m, _, hcs, _, hb, hl, hm, hlen, hel, hsp, hns⟩
  · obtain ⟨rfl, rfl, rfl⟩ : A = none ∧ n = 0 ∧ cap = 0 := by simpa using h0
    exact ⟨fun _ => ⟨#[]⟩, fun _ => ⟨none, 0, none, 0, none, 0⟩, fun _ => ⟨0, fun _ => ⟨#[]⟩, fun _ => 0, fun _ => 0, 0, fun _ => ⟨#[]⟩, fun _ => 0, 0, ⟨fun _ => 0, fun _ => 0, fun _ _ => 0, fun _ _ => 0, fun _ _ => 0, fun _ _ => 0, fun _ _ => ⟨#[]⟩⟩⟩, fun h9 => absurd h9 (by omega), by omega, fun _ h9 => absurd h9 (by omega)⟩
  · obtain ⟨rfl, rfl, rfl⟩ : A = some a ∧ n = len ∧ cap = cap' := by simpa using hcs
    have each : ∀ k, k < n → ∃ y : ByteArray × ArP × ArD, (w.cell? (a.add (k * 4)) = some (.string y.1) ∧ w.cell? ((a.add (k * 4)).add 1) = some (.slice y.2.1.A y.2.2.n y.2.1.cap) ∧ w.cell? ((a.add (k * 4)).add 2) = some (.slice y.2.1.B y.2.2.m y.2.1.bcap) ∧ w.cell? ((a.add (k * 4)).add 3) = some (.slice y.2.1.C y.2.2.N y.2.1.ccap)) ∧ ArR w y.2.1 y.2.2 ∧ y.1.size ≤ 9223372036854775807 := by
      intro k hk
      have h1 := hel k hk
      have hk' : k < elems.length := by omega
      rw [c4, List.getElem?_eq_getElem hk', Option.bind_eq_some_iff] at h1
      obtain ⟨cs', hcs', hy⟩ := h1
      obtain ⟨_, hl2, hcell⟩ := World.cells?_some hcs'
      match cs', hl2 with
      | [c0, c1, c2, c3], _ =>
        obtain ⟨s, P, D, rfl, l9, rfl, rfl, rfl, hR⟩ := open_named hy
        exact ⟨(s, P, D), ⟨by simpa [Addr.add] using hcell 0 (by omega), by simpa using hcell 1 (by omega), by simpa using hcell 2 (by omega), by simpa using hcell 3 (by omega)⟩, hR, l9⟩
    have pick : ∃ f : Nat → ByteArray × ArP × ArD, ∀ k, k < n → (w.cell? (a.add (k * 4)) = some (.string (f k).1) ∧ w.cell? ((a.add (k * 4)).add 1) = some (.slice (f k).2.1.A (f k).2.2.n (f k).2.1.cap) ∧ w.cell? ((a.add (k * 4)).add 2) = some (.slice (f k).2.1.B (f k).2.2.m (f k).2.1.bcap) ∧ w.cell? ((a.add (k * 4)).add 3) = some (.slice (f k).2.1.C (f k).2.2.N (f k).2.1.ccap)) ∧ ArR w (f k).2.1 (f k).2.2 ∧ (f k).1.size ≤ 9223372036854775807 :=
      ⟨fun k => if hk : k < n then (each k hk).choose else (⟨#[]⟩, ⟨none, 0, none, 0, none, 0⟩, ⟨0, fun _ => ⟨#[]⟩, fun _ => 0, fun _ => 0, 0, fun _ => ⟨#[]⟩, fun _ => 0, 0, ⟨fun _ => 0, fun _ => 0, fun _ _ => 0, fun _ _ => 0, fun _ _ => 0, fun _ _ => 0, fun _ _ => ⟨#[]⟩⟩⟩), fun k hk => by
        simp only [dif_pos hk]
        exact (each k hk).choose_spec⟩
    obtain ⟨f, hf⟩ := pick
    refine ⟨fun k => (f k).1, fun k => (f k).2.1, fun k => (f k).2.2, fun hn => ?_, Nat.le_trans hl (Nat.le_trans hm (by decide)), fun k hk => (hf k hk).2.2⟩
    obtain ⟨b, off, spot⟩ := a
    have hspot : spot = none := by simpa [Addr.add] using World.cell?_spot (hf 0 hn).1.1
    subst hspot
    refine ⟨b, off, rfl, ?_, fun k hk => ?_⟩
    · exact cell_lt (b := b) (o := off + 0 * 4) (by have := (hf 0 hn).1.1; rw [Go.WideShapes.add_plain] at this; exact this)
    · obtain ⟨⟨q1, q2, q3, q4⟩, q5, _⟩ := hf k hk
      rw [Go.WideShapes.add_plain] at q1 q2 q3 q4
      rw [Go.WideShapes.add_plain] at q2 q3 q4
      exact ⟨⟨q1, q2, q3, q4⟩, q5⟩
end
/-- A database of sizes that can be walked through. -/
structure DbAt (w : World) (A : Option Addr) (N : Nat) (nm : Nat → ByteArray) (P : Nat → ArP) (D : Nat → ArD) : Prop where
  at_ : 0 < N → ∃ b o, A = some ⟨b, o, none⟩ ∧ b < w.heap.size ∧ ∀ k, k < N → (w.cell? ⟨b, o + k * 4, none⟩ = some (.string (nm k)) ∧ w.cell? ⟨b, o + k * 4 + 1, none⟩ = some (.slice (P k).A (D k).n (P k).cap) ∧ w.cell? ⟨b, o + k * 4 + 2, none⟩ = some (.slice (P k).B (D k).m (P k).bcap) ∧ w.cell? ⟨b, o + k * 4 + 3, none⟩ = some (.slice (P k).C (D k).N (P k).ccap)) ∧ ArAt w (P k) (D k)
theorem DbAt.below {w w' : World} {A : Option Addr} {N : Nat} {nm : Nat → ByteArray} {P : Nat → ArP} {D : Nat → ArD} (h : DbAt w A N nm P D) (hb : Below w.heap.size w w') : DbAt w' A N nm P D := ⟨fun hn => by
  obtain ⟨b, o, h1, h2, h3⟩ := h.at_ hn
  refine ⟨b, o, h1, Nat.lt_of_lt_of_le h2 hb.size, fun k hk => ?_⟩
  obtain ⟨⟨a1, a2, a3, a4⟩, a5⟩ := h3 k hk
  exact ⟨⟨(hb.cell (p := ⟨b, o + k * 4, none⟩) h2).trans a1, (hb.cell (p := ⟨b, o + k * 4 + 1, none⟩) h2).trans a2, (hb.cell (p := ⟨b, o + k * 4 + 2, none⟩) h2).trans a3, (hb.cell (p := ⟨b, o + k * 4 + 3, none⟩) h2).trans a4⟩, a5.below hb⟩⟩
def DbOk (N : Nat) (nm : Nat → ByteArray) (D : Nat → ArD) : Prop := ∀ k, k < N → (nm k).size ≤ 9223372036854775807 ∧ ArOk (D k)
theorem DbR.ok {w : World} {A : Option Addr} {N : Nat} {nm : Nat → ByteArray} {P : Nat → ArP} {D : Nat → ArD} {most : Int} (h : DbR w A N nm P D) (hs : ∀ k, k < N → (nm k).size ≤ 9223372036854775807) (hf : ∀ k, k < N → FewD (D k) most) (hm : most ≤ 1000000) : DbAt w A N nm P D ∧ DbOk N nm D := by
  refine ⟨⟨fun hn => ?_⟩, fun k hk => ⟨hs k hk, ?_⟩⟩
  · obtain ⟨b, o, h1, h2, h3⟩ := h hn
    exact ⟨b, o, h1, h2, fun k hk => ⟨(h3 k hk).1, ((h3 k hk).2.ok (hf k hk) hm).1⟩⟩
  · obtain ⟨b, o, h1, h2, h3⟩ := h (by omega)
    exact ((h3 k hk).2.ok (hf k hk) hm).2
end Go.Proofs.YthmnmologmmeaaaGreatDoor
end

/- The error of a database. -/
section
namespace Go.Proofs.YthmnmologmmeaaaGreatDoor
open Go Go.RowKit Go.Deep

/-- The error of the named array behind those met. -/
noncomputable def dbE (met : List ByteArray) (s : ByteArray) (ck : Int) : Int := if (nameB s && !inN met s) = true then (if ck = 0 then 0 else 2) else 11
noncomputable def dbTo (nm : Nat → ByteArray) (D : Nat → ArD) : Nat → Int
  | 0 => 0
  | k + 1 => if dbTo nm D k = 0 then dbE (metK [] nm k) (nm k) (D k).check else dbTo nm D k
theorem dbTo_le {nm : Nat → ByteArray} {D : Nat → ArD} {k n : Nat} (h : dbTo nm D k ≠ 0) (hn : k ≤ n) : dbTo nm D n = dbTo nm D k := by
  induction n with
  | zero => obtain rfl : k = 0 := by omega
            rfl
  | succ n ih =>
    by_cases e : k = n + 1
    · rw [e]
    · rw [dbTo, if_neg (by rw [ih (by omega)]; exact h), ih (by omega)]
noncomputable def dbZ (nm : Nat → ByteArray) (D : Nat → ArD) (N : Nat) : Int := if 16 < N then 9 else dbTo nm D N
theorem dbZ_ok {nm : Nat → ByteArray} {D : Nat → ArD} {N : Nat} (h : dbZ nm D N = 0) : N ≤ 16 := by
  unfold dbZ at h
  split at h
  · cases h
  · omega
theorem four_at {W : World} {r : Nat} {a b c d : Value} {ty : TypeId} (h : W.heap[r]? = some (.cells #[a, b, c, d] ty (0, 0))) : W.cell? ⟨r, 0, none⟩ = some a ∧ W.cell? ⟨r, 1, none⟩ = some b ∧ W.cell? ⟨r, 2, none⟩ = some c ∧ W.cell? ⟨r, 3, none⟩ = some d := by
  refine ⟨by simp [World.cell?, h], by simp [World.cell?, h], by simp [World.cell?, h], by simp [World.cell?, h]⟩

set_option maxRecDepth 100000 in
set_option maxHeartbeats 4000000 in
theorem s_Database (w : World) (A : Option Addr) (N cap : Nat) (nm : Nat → ByteArray) (P : Nat → ArP) (D : Nat → ArD) (h : DbAt w A N nm P D) (ho : DbOk N nm D) :
    Calls Tryz.prog 15 #[.slice A N cap] w fun e w' => e = .returned (.int .i64 (dbZ nm D N)) ∧ Below w.heap.size w w' := by
  have HD := Lib.hid h
  have HO := Lib.hid ho
  have hmm := @run_makeMap Tryz.prog
  obtain ⟨ve, hve⟩ : ∃ ve, dbZ nm D N = ve := ⟨_, rfl⟩
  rw [hve]
  have HV : Hid (ve = if 16 < N then 9 else dbTo nm D N) := hve.symm
  clear h ho hve
  by_cases h16 : (N : Int) > 16
  · have HF : Hid (ve = 9) := by show _ = _; rw [HV.out, if_pos (by omega)]
    go_enter Tryz.func15, Tryz.ntmps15
    go_wp2
    go_ret
    exact ⟨by rw [HF.out]; rfl, Below.refl _ _⟩
  · have HV2 : Hid (ve = dbTo nm D N) := by show _ = _; rw [HV.out, if_neg (by omega)]
    have HB0 : Hid (Below w.heap.size w (w.alloc (.map #[] 0))) := (Below.refl _ _).alloc (Nat.le_refl _) _
    have HN0 := Lib.hid (made_names w)
    clear HV
    go_enter Tryz.func15, Tryz.ntmps15
    go_wp2_with fail
    go_loopw [5, 12] (fun _ i wr => ∃ k : Nat, k ≤ N ∧ i = .int .i64 k ∧ Hid (dbTo nm D k = 0) ∧ Hid (NamesAt wr w.heap.size (metK [] nm k)) ∧ Hid (Below w.heap.size w wr)) (fun _ i _ => N - (intOf i).toNat)
    case atStart => exact ⟨0, Nat.zero_le _, rfl, rfl, HN0.out, HB0.out⟩
    case round =>
      obtain ⟨k, hk, rfl, HK, HN, HB⟩ := hrel
      by_cases hlt : k < N
      · obtain ⟨bd, o, rfl, hbd, hc⟩ := (HD.out.below HB.out).at_ (by omega)
        obtain ⟨⟨c0, c1, c2, c3⟩, hAr⟩ := hc k hlt
        clear hc
        have HT : Hid (dbTo nm D (k + 1) = dbE (metK [] nm k) (nm k) (D k).check) := by show _ = _; rw [dbTo, if_pos HK.out]
        have HE : Hid (dbE (metK [] nm k) (nm k) (D k).check ≠ 0 → ve = dbE (metK [] nm k) (nm k) (D k).check) := fun h => by
          rw [HV2.out, dbTo_le (k := k + 1) (by rw [HT.out]; exact h) (by omega), HT.out]
        have HLen : Hid ((metK [] nm k).length < 1000000) := by
          show _ < _
          have := metK_len [] nm k
          simp at this
          omega
        have HCk : Hid (∀ W, Below w.heap.size w W → Calls Tryz.prog 14 #[(P k).val (D k).n (D k).m (D k).N] W fun e w' => e = .returned (.int .i64 (D k).check) ∧ Below W.heap.size W w') := fun W hW => as_Check W (P k) (D k) (by
          obtain ⟨bd', o', e1, _, hc'⟩ := (HD.out.below hW).at_ (by omega)
          exact (hc' k hlt).2) (HO.out k hlt).2
        have hbl := HN.out.lt
        have HSx : Hid (metK [] nm (k + 1) = nm k :: metK [] nm k) := by show _ = _; rw [metK]
        generalize hs : nm k = s at *
        generalize (D k).check = ck at *
        clear hs
        generalize hMK : metK [] nm k = M at *
        have B1 : Below wr.heap.size wr (wr.alloc (.cells #[.string s, .slice (P k).A (D k).n (P k).cap, .slice (P k).B (D k).m (P k).bcap, .slice (P k).C (D k).N (P k).ccap] 49)) := (Below.refl _ _).alloc (Nat.le_refl _) _
        have K4 := Lib.hid (heap_alloc_new wr (.cells #[.string s, .slice (P k).A (D k).n (P k).cap, .slice (P k).B (D k).m (P k).bcap, .slice (P k).C (D k).N (P k).ccap] 49))
        have HB1 : Hid (Below w.heap.size w (wr.alloc (.cells #[.string s, .slice (P k).A (D k).n (P k).cap, .slice (P k).B (D k).m (P k).bcap, .slice (P k).C (D k).N (P k).ccap] 49))) := st HB.out B1
        have HN1 := Lib.hid (HN.out.alloc (.cells #[.string s, .slice (P k).A (D k).n (P k).cap, .slice (P k).B (D k).m (P k).bcap, .slice (P k).C (D k).N (P k).ccap] 49))
        have hz1 : (wr.alloc (.cells #[.string s, .slice (P k).A (D k).n (P k).cap, .slice (P k).B (D k).m (P k).bcap, .slice (P k).C (D k).N (P k).ccap] 49)).heap.size = wr.heap.size + 1 := by simp
        obtain ⟨d0, d1, d2, d3⟩ := four_at K4.out
        clear hAr
        by_cases ht : nameB s = true ∧ inN M s = false
        · have HD0 : Hid (dbE M s ck = if ck = 0 then 0 else 2) := by show _ = _; rw [dbE, if_pos (by rw [ht.1, ht.2]; rfl)]
          have HTk := Lib.hid (s_takes_yes w.heap.size M s _ HN1.out HLen.out ht.1 ht.2)
          clear ht hMK
          go_wp2_with fail
          generalize wr.alloc (.cells #[.string s, .slice (P k).A (D k).n (P k).cap, .slice (P k).B (D k).m (P k).bcap, .slice (P k).C (D k).N (P k).ccap] 49) = wb at *
          refine HTk.out.mono ?_
          rintro e w1 ⟨rfl, hm1, hg1⟩
          have HB2 : Hid (Below w.heap.size w w1) := HB1.out.grown hg1 HB1.out.size (fun g e => by injection e with e; omega)
          have HM1 := Lib.hid hm1
          clear d0 d1 d2 d3 c0 c1 c2 c3
          have K5 := Lib.hid ((hg1.block wr.heap.size (by omega) (by intro e; injection e with e; omega)).trans K4.out)
          obtain ⟨d0, d1, d2, d3⟩ := four_at K5.out
          have HCk1 : Hid (Calls Tryz.prog 14 #[(P k).val (D k).n (D k).m (D k).N] w1 fun e w' => e = .returned (.int .i64 ck) ∧ Below w1.heap.size w1 w') := HCk.out w1 HB2.out
          by_cases hck : ck = 0
          · subst hck
            have HR : Hid (dbTo nm D (k + 1) = 0) := by show _ = _; rw [HT.out, HD0.out]; rfl
            go_wp2_with fail
            refine HCk1.out.mono ?_
            rintro e w2 ⟨rfl, hb2⟩
            have HB3 : Hid (Below w.heap.size w w2) := st HB2.out hb2
            have HM2 : Hid (NamesAt w2 w.heap.size (metK [] nm (k + 1))) := by
              show NamesAt _ _ _
              rw [HSx.out]
              exact HM1.out.kept (hb2.block _ HM1.out.lt)
            go_wp2
            go_roundw
            case rel => exact ⟨k + 1, by omega, by go_num, HR.out, HM2.out, HB3.out⟩
            case measure => simp [intOf]; omega
          · have HF : Hid (ve = 2) := by show _ = _; rw [HE.out (by rw [HD0.out, if_neg hck]; decide), HD0.out, if_neg hck]
            have g2 : (ck != 0) = true := by rw [bne_iff_ne]; exact hck
            go_wp2_with fail
            refine HCk1.out.mono ?_
            rintro e w2 ⟨rfl, hb2⟩
            have HB3 : Hid (Below w.heap.size w w2) := st HB2.out hb2
            go_wp2
            go_ret
            exact ⟨by rw [HF.out]; rfl, HB3.out⟩
        · have HD0 : Hid (dbE M s ck = 11) := by
            show _ = _
            rw [dbE, if_neg]
            simp only [Bool.and_eq_true, Bool.not_eq_true']
            exact ht
          have HF : Hid (ve = 11) := by show _ = _; rw [HE.out (by rw [HD0.out]; decide), HD0.out]
          have hno : nameB s = false ∨ inN M s = true := by
            cases h1 : nameB s
            · exact .inl rfl
            · cases h2 : inN M s
              · exact absurd ⟨h1, h2⟩ ht
              · exact .inr rfl
          have HTk := Lib.hid (s_takes_no w.heap.size M s _ HN1.out hno)
          clear ht hno hMK
          go_wp2_with fail
          refine HTk.out.mono ?_
          rintro e w1 ⟨rfl, rfl⟩
          go_wp2
          go_ret
          exact ⟨by rw [HF.out]; rfl, HB1.out⟩
      · obtain rfl : k = N := by omega
        go_wp2
        go_ret
        exact ⟨by rw [HV2.out, HK.out]; rfl, HB.out⟩
end Go.Proofs.YthmnmologmmeaaaGreatDoor
end

/- Equal to itself. -/
section
namespace Go.Proofs.YthmnmologmmeaaaGreatDoor

theorem sameD_refl (n : Nat) (a : Nat → ByteArray) (b c : Nat → Int) : sameD n n a a b b c c = true := by
  unfold sameD
  rw [beq_self_eq_true, Bool.true_and]
  exact allTo_iff.2 fun k _ => by simp [dqQ]
theorem sameA_refl (n : Nat) (a : Nat → ByteArray) (b : Nat → Int) : sameA n n a a b b = true := by
  unfold sameA
  rw [beq_self_eq_true, Bool.true_and]
  exact allTo_iff.2 fun k _ => by simp [aqQ]
theorem sameV_refl' (n : Nat) (vk vn vd : Nat → Int) (vs : Nat → ByteArray) : sameV n n vk vk vn vn vd vd vs vs = true := by
  unfold sameV
  rw [beq_self_eq_true, Bool.true_and]
  exact allTo_iff.2 fun k _ => by simp [vqQ]
theorem sameZ_refl (n : Nat) (x : Nat → Int) : sameZ n n x x = true := by
  unfold sameZ
  rw [beq_self_eq_true, Bool.true_and]
  exact eqTo_iff.2 fun k _ => rfl
theorem sameC_refl (N : Nat) (c : CeD) : sameC N N c c = true := by
  unfold sameC
  rw [beq_self_eq_true, Bool.true_and]
  exact allTo_iff.2 fun k _ => by rw [celQ, sameZ_refl, sameV_refl']; rfl
theorem eqAr_refl (D : ArD) : eqAr D D = true := by rw [eqAr, sameD_refl, sameA_refl, sameC_refl]; rfl
end Go.Proofs.YthmnmologmmeaaaGreatDoor
end

/- The array of SpaceMany. -/
section
namespace Go.Proofs.YthmnmologmmeaaaGreatDoor
open Go Go.RowKit Go.Deep Go.Sort

def mC : CeD := ⟨fun _ => 1, fun _ => 1, fun k _ => k, fun _ _ => 1, fun _ _ => 0, fun _ _ => 0, fun _ _ => ⟨#[]⟩⟩
def mD (N : Nat) : ArD := ⟨1, fun _ => ⟨#[120]⟩, fun _ => 0, fun _ => 1073741825, 1, fun _ => ⟨#[118]⟩, fun _ => 1, N, mC⟩
theorem name_x : nameB ⟨#[120]⟩ = true := by rfl
theorem name_v : nameB ⟨#[118]⟩ = true := by rfl
theorem name_a : nameB ⟨#[97]⟩ = true := by rfl
theorem m_sch : schE (fun _ => ⟨#[120]⟩) (fun _ => 0) (fun _ => 1073741825) 1 (fun _ => ⟨#[118]⟩) (fun _ => 1) 1 = 0 := by
  have e1 : inN [] ⟨#[120]⟩ = false := by simp [inN]
  have e2 : inN [⟨#[120]⟩] ⟨#[118]⟩ = false := by simp [inN]
  have hz : dimsZ (fun _ => ⟨#[120]⟩) (fun _ => 0) (fun _ => 1073741825) 1 = 0 := by
    simp [dimsZ, dimsEr, dimsTo, dimE, metK, name_x, e1]
  simp [schE, hz, attrsTo, attrE, metK, name_v, e2]
theorem m_many (N : Nat) : manyE (fun _ => ⟨#[120]⟩) (fun _ => 0) (fun _ => 1073741825) 1 (fun _ => ⟨#[118]⟩) (fun _ => 1) 1 N = if 4096 < N then 9 else 0 := by
  unfold manyE
  rw [m_sch]
  simp
theorem m_cel (N k : Nat) (hN : N ≤ 1000000) (hk : k < N) : cellE (fun _ => 0) (fun _ => 1073741825) 1 (fun _ => 1) 1 (mC.x k) (mC.ln k) (mC.vk k) (mC.vn k) (mC.vd k) (mC.vs k) (mC.vl k) = 0 := by
  have h1 : (k : Int) < 1073741825 := by omega
  have h2 : lastZ 1073741825 = 1073741824 := by simp [lastZ]
  simp [cellE, mC, placeEr, rangeE, inTo, fitTo, isTy, okB, fitB, h2]
  intro h
  exfalso
  apply h
  have h4 : (k : Int) ≤ 1073741824 := by omega
  rw [decide_eq_true h4]
  rfl
theorem m_cmp (j : Nat) (h : 1 ≤ j) : cmpS 1 1 (mC.x (j - 1)) (mC.x j) = -1 := by
  rw [cmpS_n]
  have h1 : ((j - 1 : Nat) : Int) < j := by omega
  simp [cmpTo, mC, cmpI3, h1]
theorem m_cells (N : Nat) (hN : N ≤ 1000000) : ∀ k, k ≤ N → cellsTo (fun _ => 0) (fun _ => 1073741825) 1 (fun _ => 1) 1 mC.ln mC.vl mC.x mC.vk mC.vn mC.vd mC.vs k = 0
  | 0, _ => rfl
  | k + 1, hk => by
    rw [cellsTo, if_pos (m_cells N hN k (by omega))]
    unfold cellsE
    rw [m_cel N k hN (by omega), if_neg (by simp)]
    split
    · rfl
    · show ordE (cmpS 1 1 _ _) = 0
      rw [m_cmp k (by omega)]
      rfl
theorem m_check (N : Nat) (hN : N ≤ 1000000) : (mD N).check = if 4096 < N then 9 else 0 := by
  show checkE _ _ _ _ _ _ _ _ _ _ _ _ _ _ _ = _
  unfold checkE
  show (if manyE (fun _ => ⟨#[120]⟩) (fun _ => 0) (fun _ => 1073741825) 1 (fun _ => ⟨#[118]⟩) (fun _ => 1) 1 N ≠ 0 then manyE (fun _ => ⟨#[120]⟩) (fun _ => 0) (fun _ => 1073741825) 1 (fun _ => ⟨#[118]⟩) (fun _ => 1) 1 N else cellsTo (fun _ => 0) (fun _ => 1073741825) 1 (fun _ => 1) 1 mC.ln mC.vl mC.x mC.vk mC.vn mC.vd mC.vs N) = _
  rw [m_many, m_cells N hN N (Nat.le_refl _)]
  split <;> rfl
theorem m_ok (N : Nat) (hN : N ≤ 1000000) : ArOk (mD N) := ⟨by show 1 ≤ 1000; decide, by show 1 ≤ 1000; decide, hN, fun _ _ => by show (1 : Nat) ≤ _; decide, fun _ _ => by show (1 : Nat) ≤ _; decide, fun _ _ => ⟨by show 1 ≤ 1000; decide, by show 1 ≤ 1000; decide, fun _ _ => by show (0 : Nat) ≤ _; decide⟩⟩
theorem m_db (N : Nat) (hN : N ≤ 1000000) (h : 4096 < N) : dbZ (fun _ => ⟨#[97]⟩) (fun _ => mD N) 1 = 2 := by
  have e1 : inN [] ⟨#[97]⟩ = false := by simp [inN]
  simp [dbZ, dbTo, dbE, metK, name_a, e1, m_check N hN, h]
/-- Numbers that stand in order are sorted to themselves. -/
theorem ascend (q : Nat → Nat) (N : Nat) (h1 : ∀ j, j < N → q j < N) (h2 : ∀ i j, i < j → j < N → q i < q j) : ∀ j, j < N → q j = j := by
  have lo : ∀ j, j < N → j ≤ q j := fun j => by
    induction j with
    | zero => exact fun _ => Nat.zero_le _
    | succ j ih => exact fun hj => by have := ih (by omega); have := h2 j (j + 1) (by omega) hj; omega
  have hi : ∀ d j, j + d + 1 = N → q j ≤ j := fun d => by
    induction d with
    | zero => exact fun j hj => by have := h1 j (by omega); omega
    | succ d ih => exact fun j hj => by have := ih (j + 1) (by omega); have := h2 j (j + 1) (by omega) (by omega); omega
  intro j hj
  have := lo j hj
  have := hi (N - 1 - j) j (by omega)
  omega
theorem numR_inj (n : Nat) (f : Nat → Nat → Int) (N i j : Nat) (hi : i < j) (hj : j < N) : (numR n f N)[i]! ≠ (numR n f N)[j]! := by
  have hp := (pdq_sorts (ltOf fun x y : Nat => cmpS n n (f x) (f y)) (swo_list n f) (List.range N).toArray 0 N (Lib.bitLen N) true true (Nat.zero_le _) (by simp) (Or.inl rfl)).1
  obtain ⟨h1, _, h3⟩ := hp
  have hs : (numR n f N).size = N := numR_size n f N
  have hnd : ((numR n f N).extract 0 N).toList.Nodup := by
    refine (h3.nodup_iff).2 ?_
    simp [List.nodup_range]
  rw [show (numR n f N).extract 0 N = numR n f N by
    have h9 := Array.extract_size (xs := numR n f N)
    rwa [hs] at h9] at hnd
  have hi' : i < (numR n f N).toList.length := by rw [Array.length_toList, hs]; omega
  have hj' : j < (numR n f N).toList.length := by rw [Array.length_toList, hs]; omega
  have h9 := List.pairwise_iff_getElem.1 hnd i j hi' hj' hi
  rw [getElem!_pos _ i (by rw [hs]; omega), getElem!_pos _ j (by rw [hs]; omega)]
  exact h9
theorem m_num (N : Nat) (j : Nat) (hj : j < N) : (numR 1 (fun t => mC.x (clN N t)) N)[j]! = j := by
  refine ascend (fun j => (numR 1 (fun t => mC.x (clN N t)) N)[j]!) N (fun j hj => numR_lt _ _ _ _ hj) (fun i j hij hj => ?_) j hj
  have h1 := numR_sorted 1 (fun t => mC.x (clN N t)) N i j hij hj
  have h2 := numR_inj 1 (fun t => mC.x (clN N t)) N i j hij hj
  have li := numR_lt 1 (fun t => mC.x (clN N t)) N i (by omega)
  have lj := numR_lt 1 (fun t => mC.x (clN N t)) N j hj
  show (numR 1 (fun t => mC.x (clN N t)) N)[i]! < (numR 1 (fun t => mC.x (clN N t)) N)[j]!
  generalize (numR 1 (fun t => mC.x (clN N t)) N)[i]! = a at *
  generalize (numR 1 (fun t => mC.x (clN N t)) N)[j]! = b at *
  rw [clN_id li, clN_id lj, cmpS_n] at h1
  have h3 : cmpTo (mC.x a) (mC.x b) 1 1 = if (a : Int) < b then -1 else if (b : Int) < a then 1 else 0 := by
    simp [cmpTo, mC, cmpI3]
  rw [h3] at h1
  split at h1
  · omega
  · rw [if_pos (by omega)] at h1
    omega
theorem m_re (w : World) (A : Option Addr) (N : Nat) (r : Nat → Nat) (hr : ∀ j, j < N → r j = j) (h : CeAt w A N (mC.re r)) : CeAt w A N mC := fun hn => by
  obtain ⟨b, o, h1, h2, h3⟩ := h hn
  refine ⟨b, o, h1, h2, fun k hk => ?_⟩
  obtain ⟨P, c, Q, d, a1, a2, a3, a4, a5⟩ := h3 k hk
  refine ⟨P, c, Q, d, a1, a2, ?_, a4, a5⟩
  have a6 : IntsAt w P 1 (mC.x (r k)) := a3
  rw [hr k hk] at a6
  exact a6
theorem m_di (N : Nat) (j : Nat) (h1 : 1 ≤ j) (hj : j < N) : cmpS 1 1 (mC.x ((numR 1 (fun t => mC.x (clN N t)) N)[j - 1]!)) (mC.x ((numR 1 (fun t => mC.x (clN N t)) N)[j]!)) ≠ 0 := by
  rw [m_num N _ (by omega), m_num N _ hj, m_cmp j h1]
  decide
theorem m_same (N : Nat) (hN : N ≤ 4096) : sameAr (mD N) (mD N) = true := by
  unfold sameAr
  rw [m_check N (by omega), if_neg (by omega), eqAr_refl]
  rfl
end Go.Proofs.YthmnmologmmeaaaGreatDoor
end

/- A list of cells that grows by append: where it lies. -/
section
namespace Go.Proofs.YthmnmologmmeaaaGreatDoor
open Go Go.RowKit Go.Deep

theorem RowAt.grownO {w w' : World} {A : Option Addr} {n z : Nat} {f : Nat → Nat → Value} {row : Option Nat} (h : RowAt w A n z f) (hg : w.grownBy w' row) (hA : 0 < n → ∀ a, A = some a → row ≠ some a.block) : RowAt w' A n z f := fun hn => by
  obtain ⟨b', o, rfl, h2, h3⟩ := h hn
  have hne := hA hn _ rfl
  have hb := hg.block b' h2 (fun e => hne e.symm)
  refine ⟨b', o, rfl, Nat.lt_of_lt_of_le h2 hg.size, fun k r hk hr => ?_⟩
  rw [cell_blk hb]
  exact h3 k r hk hr
theorem RowAt.lt {w : World} {A : Option Addr} {n z : Nat} {f : Nat → Nat → Value} (h : RowAt w A n z f) (hn : 0 < n) {a : Addr} (ha : A = some a) : a.block < w.heap.size := by
  obtain ⟨b', o, rfl, h2, _⟩ := h hn
  injection ha with ha
  subst ha
  exact h2
/-- The slice v is the walk's own, from block B on, and holds n cells; their lists lie elsewhere. -/
def OwnC (S : Option Addr → Prop) (w : World) (B : Nat) (v : Value) (n : Nat) (c : CeD) : Prop :=
  ∃ xs, w.ownsRow B 38 2 v n xs ∧ ∀ k, k < n → ∃ P pc Q qc, xs[k * 2]? = some (.slice P (c.ln k) pc) ∧ xs[k * 2 + 1]? = some (.slice Q (c.vl k) qc) ∧ IntsAt w P (c.ln k) (c.x k) ∧ ValsAt w Q (c.vl k) (c.vk k) (c.vn k) (c.vd k) (c.vs k) ∧ (S P ∧ S Q) ∧
    (0 < c.ln k → ∀ a, P = some a → v.ownBlock ≠ some a.block) ∧ (0 < c.vl k → ∀ a, Q = some a → v.ownBlock ≠ some a.block)
theorem OwnC.nil (S : Option Addr → Prop) (w : World) (B : Nat) (c : CeD) : OwnC S w B (.slice none 0 0) 0 c := ⟨[], ⟨rfl, .inl ⟨rfl, rfl⟩⟩, fun k hk => absurd hk (by omega)⟩
theorem OwnC.below {S : Option Addr → Prop} {w w' : World} {B n : Nat} {v : Value} {c : CeD} (h : OwnC S w B v n c) (hb : Below w.heap.size w w') : OwnC S w' B v n c := by
  obtain ⟨xs, h1, h2⟩ := h
  refine ⟨xs, h1.kept (Below.by_ hb) ?_, fun k hk => ?_⟩
  · cases e : v.ownBlock with
    | none => exact .inl rfl
    | some g => exact .inr (by simp)
  · obtain ⟨P, pc, Q, qc, a1, a2, a3, a4, a5⟩ := h2 k hk
    exact ⟨P, pc, Q, qc, a1, a2, a3.below hb, a4.below hb, a5⟩
theorem OwnC.set {S : Option Addr → Prop} {w w' : World} {B n b : Nat} {v : Value} {c : CeD} (h : OwnC S w B v n c) (hg : w.grownBy w' (some b)) (hB : b < B) (hS : ∀ P, S P → ∀ a, P = some a → a.block ≠ b) : OwnC S w' B v n c := by
  obtain ⟨xs, h1, h2⟩ := h
  refine ⟨xs, h1.kept hg ?_, fun k hk => ?_⟩
  · cases e : v.ownBlock with
    | none => exact .inl rfl
    | some g =>
      obtain ⟨hg1, _⟩ := own_lt h1 g e
      refine .inr fun e2 => ?_
      injection e2 with e2
      omega
  · obtain ⟨P, pc, Q, qc, a1, a2, a3, a4, a5⟩ := h2 k hk
    exact ⟨P, pc, Q, qc, a1, a2, (a3.row.grown hg (fun _ => hS P a5.1.1)).ints, (a4.row.grown hg (fun _ => hS Q a5.1.2)).vals, a5⟩
theorem OwnC.block {S : Option Addr → Prop} {w : World} {B n : Nat} {v : Value} {c : CeD} (h : OwnC S w B v n c) {g : Nat} (hg : v.ownBlock = some g) : B ≤ g ∧ g < w.heap.size := by
  obtain ⟨xs, h1, _⟩ := h
  obtain ⟨a, cs, b⟩ := own_lt h1 g hg
  exact ⟨a, (Array.getElem?_eq_some_iff.1 b).1⟩
theorem OwnC.row {S : Option Addr → Prop} {w : World} {B n : Nat} {v : Value} {c : CeD} (h : OwnC S w B v n c) : ∃ A cap, v = .slice A n cap ∧ (0 < n → ∃ b, A = some ⟨b, 0, none⟩ ∧ B ≤ b ∧ b < w.heap.size ∧ ∀ k, k < n → ∃ P pc Q qc, w.cell? ⟨b, k * 2, none⟩ = some (.slice P (c.ln k) pc) ∧ w.cell? ⟨b, k * 2 + 1, none⟩ = some (.slice Q (c.vl k) qc) ∧ IntsAt w P (c.ln k) (c.x k) ∧ ValsAt w Q (c.vl k) (c.vk k) (c.vn k) (c.vd k) (c.vs k) ∧ (S P ∧ S Q)) := by
  obtain ⟨xs, ⟨hl, h1⟩, h2⟩ := h
  rcases h1 with ⟨rfl, rfl⟩ | ⟨g, cap, cur, rfl, hBg, hh, hcap, _, hs, ht⟩
  · exact ⟨none, 0, rfl, fun h => absurd h (by omega)⟩
  · refine ⟨_, _, rfl, fun hn => ⟨g, rfl, hBg, (Array.getElem?_eq_some_iff.1 hh).1, fun k hk => ?_⟩⟩
    obtain ⟨P, pc, Q, qc, a1, a2, a3, a4, a5, _⟩ := h2 k hk
    have get : ∀ j u, j < n * 2 → xs[j]? = some u → w.cell? ⟨g, j, none⟩ = some u := fun j u hj hu => by
      have h3 : cur.toList[j]? = some u := by
        rw [← List.getElem?_take_of_lt hj, ht]
        exact hu
      rw [Array.getElem?_toList] at h3
      simp [World.cell?, hh, h3]
    exact ⟨P, pc, Q, qc, get _ _ (by omega) a1, get _ _ (by omega) a2, a3, a4, a5⟩
theorem OwnC.at {S : Option Addr → Prop} {w : World} {B n : Nat} {v : Value} {c : CeD} (h : OwnC S w B v n c) (ho : CeOk n c) : ∃ A cap, v = .slice A n cap ∧ CeAt w A n c := by
  obtain ⟨A, cap, h1, h2⟩ := h.row
  refine ⟨A, cap, h1, fun hn => ?_⟩
  obtain ⟨b, h3, h4, h5, h6⟩ := h2 hn
  refine ⟨b, 0, h3, h5, fun k hk => ?_⟩
  obtain ⟨P, pc, Q, qc, a1, a2, a3, a4, a5⟩ := h6 k hk
  exact ⟨P, pc, Q, qc, by rw [Nat.zero_add]; exact a1, by rw [Nat.zero_add]; exact a2, a3, a4, (ho k hk).1⟩
theorem OwnC.up {w : World} {B B' n : Nat} {v : Value} {c : CeD} (h : OwnC (Up B') w B v n c) (hB : B' ≤ B) (ho : CeOk n c) : ∃ A cap, v = .slice A n cap ∧ CeUp w B' A n c := by
  obtain ⟨A, cap, h1, h2⟩ := h.row
  refine ⟨A, cap, h1, fun hn => ?_⟩
  obtain ⟨b, h3, h4, h5, h6⟩ := h2 hn
  refine ⟨b, 0, h3, by omega, h5, fun k hk => ?_⟩
  obtain ⟨P, pc, Q, qc, a1, a2, a3, a4, a5⟩ := h6 k hk
  exact ⟨P, pc, Q, qc, by rw [Nat.zero_add]; exact a1, by rw [Nat.zero_add]; exact a2, a3, a4, (ho k hk).1, a5⟩
theorem info_cel2 : (Tryz.prog.info? 38).map (fun i => (i.zero, i.size, i.bytes)) = some (some (.agg #[.slice none 0 0, .slice none 0 0]), 2, 48) := by kernel_rfl
/-- One cell more, behind a literal of one cell: the list lies where it lay, or in a new block. -/
theorem wpList_appC {ops : Array Oper} {rest : List Oper} {o : Oper} {a : Act} {Q' : Exit → Act → World → Prop} (hgd : o.guard = none) (s x : Operand)
    (ho : o.op = .call { callee := .builtin .append, args := #[s, x], argTypes := #[24, 24] })
    (W : World) (S : Option Addr → Prop) (B : Nat) (v : Value) (n : Nat) (c : CeD) (hs : a.eval s = v) (b : Nat) (hx : a.eval x = .slice (some ⟨b, 0, none⟩) 1 1)
    (P Q : Option Addr) (pc qc : Nat) (hb : W.heap[b]? = some (.cells #[.slice P (c.ln n) pc, .slice Q (c.vl n) qc] 38 (0, 0)))
    (hi : IntsAt W P (c.ln n) (c.x n)) (hv : ValsAt W Q (c.vl n) (c.vk n) (c.vn n) (c.vd n) (c.vs n)) (hS : S P ∧ S Q)
    (hne : (0 < c.ln n → ∀ a, P = some a → v.ownBlock ≠ some a.block) ∧ (0 < c.vl n → ∀ a, Q = some a → v.ownBlock ≠ some a.block))
    (hown : OwnC S W B v n c) (hn : n ≤ 1000000) (hB : B ≤ W.heap.size)
    (h : ∀ v' w', OwnC S w' B v' (n + 1) c → W.grownBy w' v.ownBlock → (v'.ownBlock = v.ownBlock ∨ ∃ g, v'.ownBlock = some g ∧ W.heap.size ≤ g) → wpList Tryz.prog ops Q' rest (a.put o.dst v') w') : wpList Tryz.prog ops Q' (o :: rest) a W := by
  obtain ⟨xs, h1, h2⟩ := hown
  obtain ⟨i0, hi0, hz0, hz1, hz2⟩ := info_parts info_cel2
  have hlb : b < W.heap.size := (Array.getElem?_eq_some_iff.1 hb).1
  have hnew : ∀ j u, [Value.slice P (c.ln n) pc, Value.slice Q (c.vl n) qc][j]? = some u → W.cell? ((⟨b, 0, none⟩ : Addr).add j) = some u := by
    intro j u hu
    rcases j with _ | _ | j
    · have hu' : u = .slice P (c.ln n) pc := by simpa using hu.symm
      subst hu'
      simp [World.cell?, hb, Addr.add]
    · have hu' : u = .slice Q (c.vl n) qc := by simpa using hu.symm
      subst hu'
      simp [World.cell?, hb, Addr.add]
    · simp at hu
  refine wpList_append_own_at _ hgd s x 24 ho B 38 i0 (.agg #[.slice none 0 0, .slice none 0 0]) 2 48 Tryz.underlying24 hi0 hz0 hz1 hz2 rfl (by decide) v n xs hs h1 ⟨b, 0, none⟩ 1 1 [.slice P (c.ln n) pc, .slice Q (c.vl n) qc] hx rfl hnew
    (fun u hu => by
      simp only [List.mem_cons, List.not_mem_nil, or_false] at hu
      rcases hu with rfl | rfl <;> rfl) (by unfold maxLen; omega) (by omega) hB ?_
  intro v' w' g1 g2 _ g4
  have hl : xs.length = n * 2 := h1.1
  have apart : ∀ (A : Option Addr) (z m : Nat) (f : Nat → Nat → Value), RowAt W A m z f → (0 < m → ∀ a, A = some a → v.ownBlock ≠ some a.block) → 0 < m → ∀ a, A = some a → v'.ownBlock ≠ some a.block := by
    intro A z m f hr hp hm ad had
    rcases g4 with e | h9
    · rw [e]; exact hp hm ad had
    · have h8 := hr.lt hm had
      intro e
      rw [e] at h9
      injection h9 with h9
      omega
  refine h v' w' ⟨xs ++ [.slice P (c.ln n) pc, .slice Q (c.vl n) qc], g1, fun k hk => ?_⟩ g2 (g4.imp id fun h9 => ⟨_, h9, Nat.le_refl _⟩)
  by_cases e : k = n
  · subst e
    refine ⟨P, pc, Q, qc, ?_, ?_, (hi.row.grownO g2 hne.1).ints, (hv.row.grownO g2 hne.2).vals, hS, apart _ _ _ _ hi.row hne.1, apart _ _ _ _ hv.row hne.2⟩
    · rw [List.getElem?_append_right (by omega), hl, Nat.sub_self]; rfl
    · rw [List.getElem?_append_right (by omega), hl, show k * 2 + 1 - k * 2 = 1 by omega]; rfl
  · obtain ⟨P', pc', Q', qc', a1, a2, a3, a4, a5, a6, a7⟩ := h2 k (by omega)
    refine ⟨P', pc', Q', qc', ?_, ?_, (a3.row.grownO g2 a6).ints, (a4.row.grownO g2 a7).vals, a5, apart _ _ _ _ a3.row a6, apart _ _ _ _ a4.row a7⟩
    · rw [List.getElem?_append_left (by omega)]; exact a1
    · rw [List.getElem?_append_left (by omega)]; exact a2
end Go.Proofs.YthmnmologmmeaaaGreatDoor
end
