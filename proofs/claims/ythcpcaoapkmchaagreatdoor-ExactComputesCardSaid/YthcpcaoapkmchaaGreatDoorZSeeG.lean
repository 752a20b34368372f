/- Plain lists of bytes: doubled quotes made single again. No condition. -/
import Derived.Test.YthcpcaoapkmchaaGreatDoorZRdV
import Derived.Test.YthcpcaoapkmchaaGreatDoorZParG

/- Plain lists of bytes: doubled quotes made single again. No condition. -/
section
namespace Go.Proofs.YthcpcaoapkmchaaGreatDoor

theorem index2_ne (b : UInt8) (l : List UInt8) (h : b ≠ 39) : Lib.index (b :: l) [39, 39] = if Lib.index l [39, 39] == -1 then -1 else Lib.index l [39, 39] + 1 := by
  rw [Lib.index]
  have h1 : ([39, 39] : List UInt8).isPrefixOf (b :: l) = false := by
    simp [List.isPrefixOf]
    exact fun e => absurd e.symm h
  rw [h1]
  rfl
theorem index2_eq (l : List UInt8) : Lib.index (39 :: 39 :: l) [39, 39] = 0 := by
  rw [Lib.index]
  have h1 : ([39, 39] : List UInt8).isPrefixOf (39 :: 39 :: l) = true := by simp [List.isPrefixOf]
  rw [h1]
  rfl
theorem count2_eq (l : List UInt8) : Lib.count (39 :: 39 :: l) [39, 39] = 1 + Lib.count l [39, 39] := by
  rw [Lib.count_hit (i := 0) (by simp) (index2_eq l)]
  rfl
theorem count2_ne (b : UInt8) (l : List UInt8) (h : b ≠ 39) : Lib.count (b :: l) [39, 39] = Lib.count l [39, 39] := by
  by_cases hm : Lib.index l [39, 39] = -1
  · rw [Lib.count_miss hm, Lib.count_miss]
    rw [index2_ne b l h, hm]
    rfl
  · have hge := Lib.index_ge l [39, 39]
    obtain ⟨i, hi⟩ : ∃ i : Nat, Lib.index l [39, 39] = i := ⟨(Lib.index l [39, 39]).toNat, by omega⟩
    have h2 : Lib.index (b :: l) [39, 39] = ((i + 1 : Nat) : Int) := by
      rw [index2_ne b l h, if_neg (by rw [beq_iff_eq]; exact hm), hi]; omega
    rw [Lib.count_hit (by simp) h2, Lib.count_hit (by simp) hi]
    show 1 + Lib.count ((b :: l).drop (i + 1 + [(39 : UInt8), 39].length)) [39, 39] = _
    rw [show i + 1 + [(39 : UInt8), 39].length = (i + [(39 : UInt8), 39].length) + 1 by simp, List.drop_succ_cons]
theorem replaceK_unquo : ∀ l : List UInt8, Lib.replaceK [39, 39] [39] (Lib.count (quo l) [39, 39]) (quo l) = l
  | [] => by rw [show quo [] = [] from rfl, Lib.count_miss (by rfl)]; rfl
  | b :: l => by
    have ih := replaceK_unquo l
    by_cases h : b = 39
    · subst h
      have hq : quo (39 :: l) = 39 :: 39 :: quo l := by rw [quo, if_pos rfl]; rfl
      rw [hq, count2_eq, Nat.add_comm, Lib.replaceK_hit _ _ _ _ 0 (index2_eq _)]
      show [] ++ [39] ++ Lib.replaceK [39, 39] [39] (Lib.count (quo l) [39, 39]) (quo l) = _
      rw [ih]; rfl
    · have hq : quo (b :: l) = b :: quo l := by rw [quo, if_neg h]; rfl
      rw [hq, count2_ne b _ h]
      rcases hc : Lib.count (quo l) [39, 39] with _ | k
      · rw [hc] at ih
        have : quo l = l := ih
        rw [this]; rfl
      · rw [hc] at ih
        obtain ⟨i, hi⟩ := Lib.index_of_count (s := quo l) (old := [39, 39]) (by omega)
        have hm : Lib.index (quo l) [39, 39] ≠ -1 := by omega
        have h2 : Lib.index (b :: quo l) [39, 39] = ((i + 1 : Nat) : Int) := by
          rw [index2_ne b _ h, if_neg (by rw [beq_iff_eq]; exact hm), hi]; omega
        rw [Lib.replaceK_hit _ _ _ _ i hi] at ih
        rw [Lib.replaceK_hit _ _ _ _ (i + 1) h2, show i + 1 + [(39 : UInt8), 39].length = (i + [(39 : UInt8), 39].length) + 1 by simp, List.drop_succ_cons, List.take_succ_cons]
        exact congrArg (b :: ·) ih
theorem replaceAll_unquo (l : List UInt8) : Lib.replaceAll (quo l) [39, 39] [39] = l := by
  have h1 : Lib.replaceNum (quo l) [39, 39] (-1) = Lib.count (quo l) [39, 39] := by unfold Lib.replaceNum; rw [if_pos (.inl (by decide))]
  unfold Lib.replaceAll Lib.replace
  rw [if_neg (by decide), h1, replaceK_unquo]
theorem count2_le : ∀ l : List UInt8, Lib.count (quo l) [39, 39] ≤ l.length
  | [] => by rw [show quo [] = [] from rfl, Lib.count_miss (by rfl)]; exact Nat.zero_le _
  | b :: l => by
    have ih := count2_le l
    by_cases h : b = 39
    · subst h
      have hq : quo (39 :: l) = 39 :: 39 :: quo l := by rw [quo, if_pos rfl]; rfl
      rw [hq, count2_eq, List.length_cons]; omega
    · have hq : quo (b :: l) = b :: quo l := by rw [quo, if_neg h]; rfl
      rw [hq, count2_ne b _ h, List.length_cons]; omega
end Go.Proofs.YthcpcaoapkmchaaGreatDoor
end

/- No two values have one string. -/
section
namespace Go.Proofs.YthcpcaoapkmchaaGreatDoor
open Go.RowKit Go.Deep

theorem txt_inj {p q : Rat} (h : txt p = txt q) : p = q := by
  obtain ⟨_, b1, n1, d1⟩ := txt_parts p
  obtain ⟨_, b2, n2, d2⟩ := txt_parts q
  rw [h] at b1 n1 d1
  have hd : p.den = q.den := by rw [← d1, ← d2]
  have hn : p.num.natAbs = q.num.natAbs := by rw [← n1, ← n2]
  have hb : (p.num < 0) ↔ (q.num < 0) := by rw [← decide_eq_decide, ← b1, ← b2]
  exact Rat.ext (by omega) hd
theorem txt_head (q : Rat) : ∃ a l, txt q = a :: l ∧ (a = 45 ∨ (48 ≤ a.toNat ∧ a.toNat ≤ 57)) := by
  unfold txt ratText
  cases hq : decide (q.num < 0) with
  | true => exact ⟨45, _, rfl, .inl rfl⟩
  | false =>
    have h1 := dec_digit q.num.natAbs
    cases hd : Lib.decDigits q.num.natAbs with
    | nil => exact absurd hd (dec_ne _)
    | cons a l =>
      rw [hd] at h1
      exact ⟨a, _, rfl, .inr (h1 a List.mem_cons_self)⟩
theorem txt_not (q : Rat) (c : UInt8) (l : List UInt8) (hc : c ≠ 45) (hd : ¬ (48 ≤ c.toNat ∧ c.toNat ≤ 57)) : txt q ≠ c :: l := fun h => by
  obtain ⟨a, m, e, ha⟩ := txt_head q
  rw [e] at h
  injection h with h1 _
  subst h1
  rcases ha with h2 | h2
  · exact hc h2
  · exact hd h2
/-- The string of a value, as a list. -/
inductive PrnL : Int → Int → Int → ByteArray → List UInt8 → Prop
  | missing (n : Nat) : PrnL 0 n 0 noS (63 :: Lib.decDigits n)
  | yes : PrnL 1 1 0 noS [116, 114, 117, 101]
  | no : PrnL 1 0 0 noS [102, 97, 108, 115, 101]
  | num (n d : Int) (h : Low n d) : PrnL 2 n d noS (txt (qV n d))
  | text (s : ByteArray) : PrnL 3 0 0 s (39 :: quo s.data.toList ++ [39])
theorem prnL_of {k n d : Int} {s : ByteArray} (h : okB k n d s = true) : PrnL k n d s (prnV k n d s).data.toList := by
  have hp : prnV k n d s = if k = 0 then ⟨(63 :: Lib.decDigits n.toNat).toArray⟩ else if k = 1 then (if n = 1 then ⟨#[116, 114, 117, 101]⟩ else ⟨#[102, 97, 108, 115, 101]⟩) else if k = 2 then ⟨(txt (qV n d)).toArray⟩ else ⟨(39 :: quo s.data.toList ++ [39]).toArray⟩ := if_pos h
  rw [hp]
  have hg := okB_good.1 h
  clear hp h
  cases hg with
  | missing n h1 h2 =>
    obtain ⟨m, rfl⟩ : ∃ m : Nat, n = (m : Int) := ⟨n.toNat, by omega⟩
    rw [if_pos rfl, Int.toNat_natCast]
    exact .missing m
  | truth t =>
    rw [if_neg (by decide), if_pos rfl]
    cases t
    · exact .no
    · exact .yes
  | num n d h =>
    rw [if_neg (by decide), if_neg (by decide), if_pos rfl]
    exact .num n d h
  | text s h =>
    rw [if_neg (by decide), if_neg (by decide), if_neg (by decide)]
    exact .text s
theorem prnL_inj {k n d k' n' d' : Int} {s s' : ByteArray} {l : List UInt8} (h : PrnL k n d s l) (h' : PrnL k' n' d' s' l) : k = k' ∧ n = n' ∧ d = d' ∧ s = s' := by
  generalize hl : l = l' at h'
  cases h with
  | missing n =>
    cases h' with
    | missing m =>
      injection hl with _ h2
      have := congrArg decN h2
      rw [decN_dec, decN_dec] at this
      subst this
      exact ⟨rfl, rfl, rfl, rfl⟩
    | yes => injection hl with h1 _; exact absurd h1 (by decide)
    | no => injection hl with h1 _; exact absurd h1 (by decide)
    | num n d h => exact absurd hl.symm (txt_not _ _ _ (by decide) (by decide))
    | text s => injection hl with h1 _; exact absurd h1 (by decide)
  | yes =>
    cases h' with
    | missing m => injection hl with h1 _; exact absurd h1 (by decide)
    | yes => exact ⟨rfl, rfl, rfl, rfl⟩
    | no => injection hl with h1 _; exact absurd h1 (by decide)
    | num n d h => exact absurd hl.symm (txt_not _ _ _ (by decide) (by decide))
    | text s => injection hl with h1 _; exact absurd h1 (by decide)
  | no =>
    cases h' with
    | missing m => injection hl with h1 _; exact absurd h1 (by decide)
    | yes => injection hl with h1 _; exact absurd h1 (by decide)
    | no => exact ⟨rfl, rfl, rfl, rfl⟩
    | num n d h => exact absurd hl.symm (txt_not _ _ _ (by decide) (by decide))
    | text s => injection hl with h1 _; exact absurd h1 (by decide)
  | num n d h =>
    cases h' with
    | missing m => exact absurd hl (txt_not _ _ _ (by decide) (by decide))
    | yes => exact absurd hl (txt_not _ _ _ (by decide) (by decide))
    | no => exact absurd hl (txt_not _ _ _ (by decide) (by decide))
    | num n' d' h' =>
      have e := txt_inj hl
      have e1 := congrArg Rat.num e
      have e2 := congrArg Rat.den e
      rw [qV_num h, qV_num h'] at e1
      rw [qV_den h, qV_den h'] at e2
      have a1 := h.2.2.1
      have a2 := h'.2.2.1
      exact ⟨rfl, e1, by omega, rfl⟩
    | text s => exact absurd hl (txt_not _ _ _ (by decide) (by decide))
  | text s =>
    cases h' with
    | missing m => injection hl with h1 _; exact absurd h1 (by decide)
    | yes => injection hl with h1 _; exact absurd h1 (by decide)
    | no => injection hl with h1 _; exact absurd h1 (by decide)
    | num n d h => exact absurd hl.symm (txt_not _ _ _ (by decide) (by decide))
    | text s' =>
      have h1 : quo s.data.toList ++ [39] = quo s'.data.toList ++ [39] := by
        have := List.cons.inj hl
        exact this.2
      have h2 := List.append_cancel_right h1
      have h3 := congrArg (fun l => Lib.replaceAll l [39, 39] [39]) h2
      have h4 : s.data.toList = s'.data.toList := by
        have e := h3
        simp only [replaceAll_unquo] at e
        exact e
      have h5 : s = s' := by
        apply ByteArray.ext
        exact Array.toList_inj.1 h4
      exact ⟨rfl, rfl, rfl, h5⟩
/-- Two values with one string are one value. -/
theorem prnV_inj {k n d k' n' d' : Int} {s s' : ByteArray} (h : okB k n d s = true) (h' : okB k' n' d' s' = true) (e : prnV k n d s = prnV k' n' d' s') : k = k' ∧ n = n' ∧ d = d' ∧ s = s' := by
  have h1 := prnL_of h
  rw [e] at h1
  exact prnL_inj h1 (prnL_of h')
end Go.Proofs.YthcpcaoapkmchaaGreatDoor
end
