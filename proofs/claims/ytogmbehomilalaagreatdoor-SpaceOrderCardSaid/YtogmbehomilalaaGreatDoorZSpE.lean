/- A set of names: a map from strings to truth values, all of them true. -/
import Derived.Test.YtogmbehomilalaaGreatDoorProg
import Derived.Maps.OwnSet
import Derived.Maps.OwnOps
import Derived.Maps.Views
import Derived.StringKeys
import Derived.WalkKit
import Derived.WalkSpells
import Derived.WalkLawsBesides
import Derived.Deep.QuietTactic
import Derived.BigQuiet
import Derived.Deep.OwnRows
import Derived.Lib.Hide
import Derived.Maps.AppendAt
import Derived.Deep.RegionHeld3

/- A set of names: a map from strings to truth values, all of them true. -/
section
namespace Go.Proofs.YtogmbehomilalaaGreatDoor
open Go Go.RowKit Go.Maps Go.WideMaps

def keyS (s : ByteArray) : Lit := .string s.data.toList
theorem keyS_inj {s x : ByteArray} (h : keyS s = keyS x) : s = x := by
  have h1 : s.data.toList = x.data.toList := by injection h
  have h2 : s.data = x.data := by simpa using congrArg List.toArray h1
  cases s; cases x; simp at h2; subst h2; rfl
theorem keyS_lit (s : ByteArray) : WideAt.IsKeyLit (keyS s) := trivial
/-- Is a name among those that were met? -/
noncomputable def inN (l : List ByteArray) (s : ByteArray) : Bool := @decide (s ∈ l) (Classical.propDecidable _)
theorem inN_true {l : List ByteArray} {s : ByteArray} : inN l s = true ↔ s ∈ l := by
  unfold inN
  exact @decide_eq_true_iff _ (Classical.propDecidable _)
theorem inN_false {l : List ByteArray} {s : ByteArray} : inN l s = false ↔ s ∉ l := by
  rw [← inN_true]; cases inN l s <;> simp
/-- The names that were met, the newest first. -/
def nmD : List ByteArray → DataW Unit
  | [] => .map []
  | s :: l => (nmD l).put (keyS s) (.lit (.bool true))
theorem nm_map : ∀ l, IsMap (nmD l)
  | [] => isMap_empty
  | _ :: l => (nm_map l).put _ _
theorem nm_at (l : List ByteArray) (s : ByteArray) : (nmD l).atKey (keyS s) (.lit (.bool false)) = .lit (.bool (inN l s)) := by
  induction l with
  | nil => rw [show inN [] s = false from inN_false.2 (by simp)]; rfl
  | cons x l ih =>
    by_cases e : s = x
    · subst e
      rw [nmD, atKey_put_same (nm_map l) (keyS_lit s), inN_true.2 (by simp)]
    · rw [nmD, atKey_put_other (fun h => e (keyS_inj h)), ih]
      congr 2
      rw [Bool.eq_iff_iff, inN_true, inN_true]
      simp [e]
/-- Block b is the map of the names l. -/
def NamesAt (w : World) (b : Nat) (l : List ByteArray) : Prop := w.ownsMap Tryz.prog 9 (plainElem Tryz.prog 4) b l.length (nmD l)
theorem NamesAt.lt {w : World} {b : Nat} {l : List ByteArray} (h : NamesAt w b l) : b < w.heap.size := World.ownsMap.lt h
theorem NamesAt.kept {w w' : World} {b : Nat} {l : List ByteArray} (h : NamesAt w b l) (hb : w'.heap[b]? = w.heap[b]?) : NamesAt w' b l := by
  obtain ⟨es, clock, h1, h2⟩ := h
  exact ⟨es, clock, hb.trans h1, h2⟩
theorem NamesAt.alloc {w : World} {b : Nat} {l : List ByteArray} (h : NamesAt w b l) (o : Obj) : NamesAt (w.alloc o) b l := World.ownsMap.alloc h o
theorem zero_bool (w : World) : (zeroValue 4).run Tryz.prog w = .ok (.bool false) w := by kernel_rfl
theorem names_law : Keyed Tryz.prog 9 := string_keyed Tryz.underlying9
set_option maxRecDepth 100000 in
theorem plainElem_bool_inv {H : Type} {v : Value} {z : DataW H × List MemPlace} (h : plainElem Tryz.prog 4 v = some z) : ∃ x, v = .bool x ∧ z = (.lit (.bool x), []) := by
  unfold plainElem at h
  rw [Tryz.underlying4] at h
  cases v <;> simp at h
  exact ⟨_, rfl, h.symm⟩
set_option maxRecDepth 100000 in
theorem NamesAt.look {w : World} {b : Nat} {l : List ByteArray} (h : NamesAt w b l) {s : ByteArray} (hs : s.size ≤ maxLen) :
    (Instr.lookup 163 (.map (some b)) (.string s) false).run Tryz.prog w = .ok (.bool (inN l s)) w := by
  obtain ⟨v, ps, hrun, hv⟩ := World.ownsMap.lookup h names_law Tryz.underlying163 (zero_bool w) (plainElem_bool Tryz.underlying4 false) (keyOf_string_mk Tryz.underlying9 hs)
  obtain ⟨x, rfl, hx⟩ := plainElem_bool_inv hv
  have h9 := nm_at l s
  have e9 : (nmD l).atKey (keyS s) (.lit (.bool false)) = .lit (.bool x) := by
    injection hx
  rw [h9] at e9
  injection e9 with e9
  injection e9 with e9
  rw [hrun, e9]

theorem wpList_lookup_names {w : World} {ops : Array Oper} {rest : List Oper} {o : Oper} {a : Act} {Q : Exit → Act → World → Prop}
    (hg : Region.wanted o (yielded ops a.tmps) = true) (m x : Operand) (hop : o.op = Op.lookup 163 m x false) (b : Nat) (l : List ByteArray)
    (hm : a.eval m = .map (some b)) (h : NamesAt w b l) (s : ByteArray) (hx : a.eval x = .string s) (hs : s.size ≤ maxLen)
    (hK : wpList Tryz.prog ops Q rest (a.put o.dst (.bool (inN l s))) w) : wpList Tryz.prog ops Q (o :: rest) a w := by
  refine wpList_step fun K' hK' => ?_
  rw [if_pos hg]
  have hrun := h.look hs
  unfold Oper.wp
  simp [execOp, hop, hm, hx, hrun, Result.andThen]
  exact hK' _ _ hK
theorem wpList_store_names {w : World} {ops : Array Oper} {rest : List Oper} {o : Oper} {a : Act} {Q : Exit → Act → World → Prop}
    (hg : o.guard = none) (m x v : Operand) (hop : o.op = Op.mapUpdate 163 m x v) (b : Nat) (l : List ByteArray)
    (hm : a.eval m = .map (some b)) (h : NamesAt w b l) (hl : l.length < maxLen) (s : ByteArray) (hx : a.eval x = .string s) (hs : s.size ≤ maxLen) (hv : a.eval v = .bool true)
    (hK : ∀ w', NamesAt w' b (s :: l) → w.grownBy w' (some b) → wpList Tryz.prog ops Q rest (a.put o.dst undef) w') : wpList Tryz.prog ops Q (o :: rest) a w :=
  wpList_mapUpdate_own w hg m x v _ hop _ _ names_law Tryz.underlying163 _ b l.length (nmD l) hm h hl _ _ _ hx hv (keyOf_string_mk Tryz.underlying9 hs) _ [] (plainElem_bool Tryz.underlying4 true) hK
end Go.Proofs.YtogmbehomilalaaGreatDoor
end

/- Names, and the leaves of schemas. -/
section
namespace Go.Proofs.YtogmbehomilalaaGreatDoor
open Go Go.RowKit Go.Deep

def letB (c : Int) : Bool := decide (97 ≤ c) && decide (c ≤ 122)
/-- What stands behind the first letter of a name. -/
def chrB (c : Int) : Bool := letB c || ((decide (48 ≤ c) && decide (c ≤ 57)) || c == 95)
set_option maxHeartbeats 400000 in
theorem s_isLetter (c : Int) (w : World) : Calls Tryz.prog 171 #[.int .u8 c] w fun e w' => e = .returned (.bool (letB c)) ∧ w = w' := by
  by_cases h : 97 ≤ c
  · have e1 : letB c = decide (c ≤ 122) := by simp [letB, h]
    rw [e1]
    go_enter Tryz.func171, Tryz.ntmps171
    go_wp2
    go_ret
    exact ⟨rfl, rfl⟩
  · have e1 : letB c = false := by simp [letB, h]
    rw [e1]
    go_enter Tryz.func171, Tryz.ntmps171
    go_wp2
    go_ret
    exact ⟨rfl, rfl⟩

/-- Byte k of a string. -/
def byt (s : ByteArray) (k : Nat) : Int := ((s.data.toList[k]?.getD 0).toNat : Int)
theorem byt_eq (s : ByteArray) (k : Nat) (h : k < s.size) : byt s k = (s[k].toNat : Int) := by
  have e : s.data.toList[k]?.getD 0 = s[k] := by
    rw [Array.getElem?_toList, Array.getElem?_eq_getElem h]
    rfl
  unfold byt
  rw [e]
/-- Are the first k bytes such as names have? -/
def nameTo (s : ByteArray) (k : Nat) : Bool := (List.range k).all fun i => chrB (byt s i)
theorem nameTo_succ (s : ByteArray) (k : Nat) : nameTo s (k + 1) = (nameTo s k && chrB (byt s k)) := by
  unfold nameTo
  rw [List.range_succ, List.all_append]
  simp only [List.all_cons, List.all_nil, Bool.and_true]
theorem nameTo_le {s : ByteArray} {k n : Nat} (h : nameTo s k = false) (hn : k ≤ n) : nameTo s n = false := by
  induction n with
  | zero => obtain rfl : k = 0 := by omega
            exact h
  | succ n ih =>
    by_cases e : k = n + 1
    · rw [← e]; exact h
    · rw [nameTo_succ, ih (by omega)]; rfl
/-- Is a string a name? -/
def nameB (s : ByteArray) : Bool := decide (0 < s.size) && decide (s.size ≤ 12) && letB (byt s 0) && nameTo s s.size
theorem nameB_size {s : ByteArray} (h : nameB s = true) : 0 < s.size ∧ s.size ≤ 12 := by
  simp only [nameB, Bool.and_eq_true, decide_eq_true_eq] at h
  exact h.1.1
theorem list_noS (s : ByteArray) : s.toList = [] ↔ s.size = 0 := by
  rw [ByteArray.toList_eq]
  constructor
  · intro h
    have h1 : s.data.toList.length = s.size := by simp
    rw [h] at h1
    exact h1.symm
  · intro h
    have h1 : s.data.toList.length = s.size := by simp
    exact List.eq_nil_of_length_eq_zero (by omega)

set_option maxRecDepth 100000 in
set_option maxHeartbeats 2000000 in
theorem s_Name (s : ByteArray) (w : World) : Calls Tryz.prog 137 #[.string s] w fun e w' => e = .returned (.bool (nameB s)) ∧ w = w' := by
  have HL := Lib.hid s_isLetter
  by_cases h0 : s.size = 0
  · have e1 : nameB s = false := by simp [nameB, h0]
    have he : s.toList = [] := (list_noS s).2 h0
    rw [e1]
    clear e1
    go_enter Tryz.func137, Tryz.ntmps137
    go_wp2
    go_ret
    exact ⟨rfl, rfl⟩
  · have he : s.toList ≠ [] := fun h => h0 ((list_noS s).1 h)
    have he2 : (s.toList == []) = false := by rw [beq_eq_false_iff_ne]; exact he
    by_cases h1 : s.size ≤ 12
    · have hp : 0 < s.size := by omega
      have h1' : ¬ (s.size : Int) > 12 := by omega
      have HB := Lib.hid (byt_eq s 0 hp)
      have HN : Hid (nameB s = (letB (byt s 0) && nameTo s s.size)) := by show _ = _; simp [nameB, hp, h1]
      have HS := Lib.hid h1
      rw [HN.out]
      clear h0 he h1
      go_enter Tryz.func137, Tryz.ntmps137
      go_wp2_with fail
      refine (HL.out _ _).mono ?_
      rintro e w1 ⟨rfl, rfl⟩
      rw [← HB.out]
      generalize hL : letB (byt s 0) = L
      have HLv := Lib.hid hL
      clear hL
      cases L
      · go_wp2
        go_ret
        exact ⟨congrArg (fun b => Ending.returned (Value.bool b)) (by rw [HLv.out]; rfl), rfl⟩
      · go_wp2
        go_loop [3, 19] (fun _ i => ∃ k : Nat, k ≤ s.size ∧ i = .int .i64 k ∧ Hid (nameTo s k = true)) (fun _ i => s.size - (intOf i).toNat)
        case atStart => exact ⟨0, Nat.zero_le _, rfl, rfl⟩
        case round =>
          obtain ⟨k, hk, rfl, HK⟩ := hrel
          by_cases hlt : k < s.size
          · have HBk := Lib.hid (byt_eq s k hlt)
            have HC : Hid (chrB (s[k].toNat : Int) = true → nameTo s (k + 1) = true) := fun h => by rw [nameTo_succ, HK.out, HBk.out, h]; rfl
            have HF : Hid (chrB (s[k].toNat : Int) = false → nameTo s s.size = false) := fun h => nameTo_le (k := k + 1) (by rw [nameTo_succ, HBk.out, h, Bool.and_false]) (by omega)
            go_wp2_with fail
            refine (HL.out _ _).mono ?_
            rintro e w1 ⟨rfl, rfl⟩
            have HX : Hid (chrB (s[k].toNat : Int) = (letB (s[k].toNat : Int) || ((decide (48 ≤ (s[k].toNat : Int)) && decide ((s[k].toNat : Int) ≤ 57)) || (s[k].toNat : Int) == 95))) := rfl
            generalize letB (s[k].toNat : Int) = L at *
            cases L
            · by_cases g1 : 48 ≤ (s[k].toNat : Int)
              · by_cases g2 : (s[k].toNat : Int) ≤ 57
                · have HR : Hid (chrB (s[k].toNat : Int) = true) := by show _ = _; rw [HX.out]; simp [g1, g2]
                  go_wp2
                  go_round
                  case rel => exact ⟨k + 1, by omega, by go_num, HC.out HR.out⟩
                  case measure => simp [intOf]; omega
                · by_cases g3 : (s[k].toNat : Int) = 95
                  · have HR : Hid (chrB (s[k].toNat : Int) = true) := by show _ = _; rw [HX.out]; simp [g3]
                    have g4 : ((s[k].toNat : Int) != 95) = false := by rw [g3]; rfl
                    clear g3
                    go_wp2
                    go_round
                    case rel => exact ⟨k + 1, by omega, by go_num, HC.out HR.out⟩
                    case measure => simp [intOf]; omega
                  · have HR : Hid (nameTo s s.size = false) := HF.out (by rw [HX.out]; simp [g2, g3])
                    have g4 : ((s[k].toNat : Int) != 95) = true := by rw [bne_iff_ne]; exact g3
                    go_wp2
                    go_ret
                    exact ⟨congrArg (fun b => Ending.returned (Value.bool b)) (by rw [HLv.out, HR.out]; rfl), rfl⟩
              · by_cases g3 : (s[k].toNat : Int) = 95
                · omega
                · have HR : Hid (nameTo s s.size = false) := HF.out (by rw [HX.out]; simp [g1, g3])
                  have g4 : ((s[k].toNat : Int) != 95) = true := by rw [bne_iff_ne]; exact g3
                  go_wp2
                  go_ret
                  exact ⟨congrArg (fun b => Ending.returned (Value.bool b)) (by rw [HLv.out, HR.out]; rfl), rfl⟩
            · have HR : Hid (chrB (s[k].toNat : Int) = true) := by show _ = _; rw [HX.out]; rfl
              go_wp2
              go_round
              case rel => exact ⟨k + 1, by omega, by go_num, HC.out HR.out⟩
              case measure => simp [intOf]; omega
          · obtain rfl : k = s.size := by omega
            go_wp2
            go_ret
            exact ⟨congrArg (fun b => Ending.returned (Value.bool b)) (by rw [HLv.out, HK.out]; rfl), rfl⟩
    · have e1 : nameB s = false := by simp [nameB, h1]
      have h1' : (s.size : Int) > 12 := by omega
      rw [e1]
      clear e1 h1 h0 he
      go_enter Tryz.func137, Tryz.ntmps137
      go_wp2
      go_ret
      exact ⟨rfl, rfl⟩
end Go.Proofs.YtogmbehomilalaaGreatDoor
end

/- Names that are taken one after the other. -/
section
namespace Go.Proofs.YtogmbehomilalaaGreatDoor
open Go Go.RowKit Go.Deep

theorem maxLen_big : 1000000 < maxLen := by unfold maxLen; omega
set_option maxRecDepth 100000 in
set_option maxHeartbeats 2000000 in
theorem s_takes_yes (b : Nat) (l : List ByteArray) (s : ByteArray) (w : World) (h : NamesAt w b l) (hl : l.length < 1000000) (hn : nameB s = true) (hi : inN l s = false) :
    Calls Tryz.prog 113 #[.map (some b), .string s] w fun e w' => e = .returned (.bool true) ∧ NamesAt w' b (s :: l) ∧ w.grownBy w' (some b) := by
  have HL := Lib.hid s_Name
  have HI := Lib.hid hi
  have hs : s.size ≤ maxLen := by have := nameB_size hn; have := maxLen_big; omega
  have HN := Lib.hid hn
  clear hn hi
  go_enter Tryz.func113, Tryz.ntmps113
  go_wp2_with fail
  refine (HL.out _ _).mono ?_
  rintro e w1 ⟨rfl, rfl⟩
  rw [HN.out]
  go_wp2_with (first
    | (at_lookup; go_loud (refine wpList_lookup_names (by rfl) _ _ rfl b l rfl h s rfl hs ?_; rw [HI.out]))
    | (at_mapUpdate; refine wpList_store_names rfl _ _ _ rfl b l rfl h (by have := maxLen_big; omega) s rfl hs rfl ?_; intro w1 hown1 hgrow1)
    | go_in)
  go_ret
  exact ⟨rfl, hown1, hgrow1⟩
set_option maxRecDepth 100000 in
set_option maxHeartbeats 2000000 in
theorem s_takes_no (b : Nat) (l : List ByteArray) (s : ByteArray) (w : World) (h : NamesAt w b l) (hn : nameB s = false ∨ inN l s = true) :
    Calls Tryz.prog 113 #[.map (some b), .string s] w fun e w' => e = .returned (.bool false) ∧ w = w' := by
  have HL := Lib.hid s_Name
  have h9 : nameB s = false ∨ nameB s = true ∧ inN l s = true := by
    rcases hn with h1 | h1
    · exact .inl h1
    · cases h2 : nameB s
      · exact .inl rfl
      · exact .inr ⟨rfl, h1⟩
  clear hn
  rcases h9 with h1 | ⟨h1, h2⟩
  · have HN := Lib.hid h1
    clear h1
    go_enter Tryz.func113, Tryz.ntmps113
    go_wp2_with fail
    refine (HL.out _ _).mono ?_
    rintro e w1 ⟨rfl, rfl⟩
    rw [HN.out]
    go_wp2
    go_ret
    exact ⟨rfl, rfl⟩
  · have HN := Lib.hid h1
    have HI := Lib.hid h2
    have hs : s.size ≤ maxLen := by have := nameB_size h1; have := maxLen_big; omega
    clear h1 h2
    go_enter Tryz.func113, Tryz.ntmps113
    go_wp2_with fail
    refine (HL.out _ _).mono ?_
    rintro e w1 ⟨rfl, rfl⟩
    rw [HN.out]
    go_wp2_with (first
      | (at_lookup; go_loud (refine wpList_lookup_names (by rfl) _ _ rfl b l rfl h s rfl hs ?_; rw [HI.out]))
      | go_in)
    go_ret
    exact ⟨rfl, rfl⟩
end Go.Proofs.YtogmbehomilalaaGreatDoor
end

/- The error of dimensions. -/
section
namespace Go.Proofs.YtogmbehomilalaaGreatDoor
open Go Go.RowKit Go.Deep

/-- The dimensions of a slice. -/
def DimsAt (w : World) (A : Option Addr) (n : Nat) (nm : Nat → ByteArray) (lo hi : Nat → Int) : Prop :=
  0 < n → ∃ b o, A = some ⟨b, o, none⟩ ∧ b < w.heap.size ∧ ∀ k, k < n → w.cell? ⟨b, o + k * 3, none⟩ = some (.string (nm k)) ∧ w.cell? ⟨b, o + k * 3 + 1, none⟩ = some (.int .i64 (lo k)) ∧ w.cell? ⟨b, o + k * 3 + 2, none⟩ = some (.int .i64 (hi k))
/-- What w knows but block b is so in w', too. -/
theorem DimsAt.grown {w w' : World} {A : Option Addr} {n b : Nat} {nm : Nat → ByteArray} {lo hi : Nat → Int} (h : DimsAt w A n nm lo hi) (hg : w.grownBy w' (some b)) (hA : ∀ a, A = some a → a.block ≠ b) : DimsAt w' A n nm lo hi := fun hn => by
  obtain ⟨b', o, rfl, h2, h3⟩ := h hn
  have hne := hA _ rfl
  have hb : w'.heap[b']? = w.heap[b']? := hg.block b' h2 (fun e => hne (by injection e))
  have hc : ∀ j, w'.cell? ⟨b', j, none⟩ = w.cell? ⟨b', j, none⟩ := fun j => by simp [World.cell?, hb]
  exact ⟨b', o, rfl, Nat.lt_of_lt_of_le h2 hg.size, fun k hk => by rw [hc, hc, hc]; exact h3 k hk⟩
noncomputable def dimE (met : List ByteArray) (s : ByteArray) (lo hi : Int) : Int :=
  if (nameB s && !inN met s) = true then (if lo < -1073741824 ∨ lo > 1073741824 ∨ hi < lo ∨ hi > 1073741825 then 3 else 0) else 11
def metK (met : List ByteArray) (nm : Nat → ByteArray) : Nat → List ByteArray
  | 0 => met
  | k + 1 => nm k :: metK met nm k
theorem metK_len (met : List ByteArray) (nm : Nat → ByteArray) : ∀ k, (metK met nm k).length = met.length + k
  | 0 => rfl
  | k + 1 => by simp [metK, metK_len met nm k]; omega
noncomputable def dimsTo (met : List ByteArray) (nm : Nat → ByteArray) (lo hi : Nat → Int) : Nat → Int
  | 0 => 0
  | k + 1 => if dimsTo met nm lo hi k = 0 then dimE (metK met nm k) (nm k) (lo k) (hi k) else dimsTo met nm lo hi k
theorem dimsTo_le {met : List ByteArray} {nm : Nat → ByteArray} {lo hi : Nat → Int} {k n : Nat} (h : dimsTo met nm lo hi k ≠ 0) (hn : k ≤ n) : dimsTo met nm lo hi n = dimsTo met nm lo hi k := by
  induction n with
  | zero => obtain rfl : k = 0 := by omega
            rfl
  | succ n ih =>
    by_cases e : k = n + 1
    · rw [e]
    · rw [dimsTo, if_neg (by rw [ih (by omega)]; exact h), ih (by omega)]
noncomputable def dimsEr (met : List ByteArray) (nm : Nat → ByteArray) (lo hi : Nat → Int) (n : Nat) : Int := if n = 0 ∨ 4 < n then 13 else dimsTo met nm lo hi n

set_option maxRecDepth 100000 in
set_option maxHeartbeats 4000000 in
theorem s_dimsError (w : World) (A : Option Addr) (n cap b : Nat) (nm : Nat → ByteArray) (lo hi : Nat → Int) (met : List ByteArray) (hd : DimsAt w A n nm lo hi) (hA : 0 < n → ∀ a, A = some a → a.block ≠ b) (hm : NamesAt w b met) (hml : met.length < 1000) :
    Calls Tryz.prog 112 #[.slice A n cap, .map (some b)] w fun e w' => e = .returned (.int .i64 (dimsEr met nm lo hi n)) ∧ w.grownBy w' (some b) ∧ (dimsEr met nm lo hi n = 0 → NamesAt w' b (metK met nm n)) := by
  by_cases hn : n = 0 ∨ 4 < n
  · have e1 : dimsEr met nm lo hi n = 13 := if_pos hn
    rw [e1]
    rcases hn with rfl | hn
    · go_enter Tryz.func112, Tryz.ntmps112
      go_wp2
      go_ret
      exact ⟨rfl, World.grownBy.refl _ _, fun h => absurd h (by decide)⟩
    · have h1 : ((n : Int) == 0) = false := by rw [beq_eq_false_iff_ne]; omega
      have h2 : (n : Int) > 4 := by omega
      clear hn e1
      go_enter Tryz.func112, Tryz.ntmps112
      go_wp2
      go_ret
      exact ⟨rfl, World.grownBy.refl _ _, fun h => absurd h (by decide)⟩
  · have e1 : dimsEr met nm lo hi n = dimsTo met nm lo hi n := if_neg hn
    rw [e1]
    have h1 : ((n : Int) == 0) = false := by rw [beq_eq_false_iff_ne]; omega
    have h2 : ¬ (n : Int) > 4 := by omega
    have h3 : n ≤ 4 := by omega
    have HD := Lib.hid (And.intro hd hA)
    have HM := Lib.hid hm
    have HML := Lib.hid hml
    clear hn e1 hd hA hm hml
    go_enter Tryz.func112, Tryz.ntmps112
    go_wp2
    go_loopw [6, 17] (fun _ i wr => ∃ k : Nat, k ≤ n ∧ i = .int .i64 k ∧ Hid (dimsTo met nm lo hi k = 0 ∧ w.grownBy wr (some b) ∧ NamesAt wr b (metK met nm k))) (fun _ i _ => n - (intOf i).toNat)
    case atStart => exact ⟨0, Nat.zero_le _, rfl, rfl, World.grownBy.refl _ _, HM.out⟩
    case round =>
      obtain ⟨k, hk, rfl, HK⟩ := hrel
      by_cases hlt : k < n
      · obtain ⟨bd, o, rfl, _, hc⟩ := (HD.out.1.grown HK.out.2.1 (HD.out.2 (by omega))) (by omega)
        obtain ⟨c0, c1, c2⟩ := hc k hlt
        clear hc
        have HT : Hid (dimsTo met nm lo hi (k + 1) = dimE (metK met nm k) (nm k) (lo k) (hi k)) := by show _ = _; rw [dimsTo, if_pos HK.out.1]
        have HE : Hid (dimE (metK met nm k) (nm k) (lo k) (hi k) ≠ 0 → dimsTo met nm lo hi n = dimE (metK met nm k) (nm k) (lo k) (hi k)) := fun h => by
          rw [dimsTo_le (k := k + 1) (by rw [HT.out]; exact h) (by omega), HT.out]
        have HLen : Hid ((metK met nm k).length < 1000000) := by
          show _ < _
          have := metK_len met nm k
          have := HML.out
          omega
        have HNx := HK.out.2.2
        have hbl := HNx.lt
        generalize hs : nm k = s at *
        generalize hlo : lo k = x at *
        generalize hhi : hi k = y at *
        have HSx : Hid (metK met nm (k + 1) = s :: metK met nm k) := by show _ = _; rw [metK, hs]
        clear hs hlo hhi
        generalize hMK : metK met nm k = M at *
        have hnw := heap_alloc_new wr (Obj.cells #[Value.string s, Value.int IntKind.i64 x, Value.int IntKind.i64 y] 57)
        have HG : Hid (w.grownBy (wr.alloc (Obj.cells #[Value.string s, Value.int IntKind.i64 x, Value.int IntKind.i64 y] 57)) (some b)) := HK.out.2.1.trans (World.grownBy_alloc wr _ (some b))
        have HA := Lib.hid (HNx.alloc (Obj.cells #[Value.string s, Value.int IntKind.i64 x, Value.int IntKind.i64 y] 57))
        by_cases ht : nameB s = true ∧ inN M s = false
        · have HD0 : Hid (dimE M s x y = if x < -1073741824 ∨ x > 1073741824 ∨ y < x ∨ y > 1073741825 then 3 else 0) := by show _ = _; rw [dimE, if_pos (by rw [ht.1, ht.2]; rfl)]
          have HTk := Lib.hid (s_takes_yes b M s _ HA.out HLen.out ht.1 ht.2)
          clear ht hMK
          go_wp2_with fail
          refine HTk.out.mono ?_
          rintro e w1 ⟨rfl, hm1, hg1⟩
          have hbk := hg1.block wr.heap.size (by simp) (by intro e; injection e with e; omega)
          have v1 : w1.cell? ⟨wr.heap.size, 1, none⟩ = some (.int .i64 x) := by rw [cell_of_row _ _ _ _ _ _ (hbk.trans hnw)]; rfl
          have v2 : w1.cell? ⟨wr.heap.size, 2, none⟩ = some (.int .i64 y) := by rw [cell_of_row _ _ _ _ _ _ (hbk.trans hnw)]; rfl
          have HG1 : Hid (w.grownBy w1 (some b)) := HG.out.trans hg1
          have HM1 := Lib.hid hm1
          clear hbk hnw hm1 hg1 HTk c0 c1 c2
          by_cases g1 : x < -1073741824
          · have HR : Hid (dimE M s x y = 3) := by show _ = _; rw [HD0.out, if_pos (.inl g1)]
            have HF : Hid (dimsTo met nm lo hi n = 3) := by show _ = _; rw [HE.out (by rw [HR.out]; decide), HR.out]
            go_wp2
            go_ret
            exact ⟨by rw [HF.out]; rfl, HG1.out, fun h => absurd h (by rw [HF.out]; decide)⟩
          · by_cases g2 : x > 1073741824
            · have HR : Hid (dimE M s x y = 3) := by show _ = _; rw [HD0.out, if_pos (.inr (.inl g2))]
              have HF : Hid (dimsTo met nm lo hi n = 3) := by show _ = _; rw [HE.out (by rw [HR.out]; decide), HR.out]
              go_wp2
              go_ret
              exact ⟨by rw [HF.out]; rfl, HG1.out, fun h => absurd h (by rw [HF.out]; decide)⟩
            · by_cases g3 : y < x
              · have HR : Hid (dimE M s x y = 3) := by show _ = _; rw [HD0.out, if_pos (.inr (.inr (.inl g3)))]
                have HF : Hid (dimsTo met nm lo hi n = 3) := by show _ = _; rw [HE.out (by rw [HR.out]; decide), HR.out]
                go_wp2
                go_ret
                exact ⟨by rw [HF.out]; rfl, HG1.out, fun h => absurd h (by rw [HF.out]; decide)⟩
              · by_cases g4 : y > 1073741825
                · have HR : Hid (dimE M s x y = 3) := by show _ = _; rw [HD0.out, if_pos (.inr (.inr (.inr g4)))]
                  have HF : Hid (dimsTo met nm lo hi n = 3) := by show _ = _; rw [HE.out (by rw [HR.out]; decide), HR.out]
                  go_wp2
                  go_ret
                  exact ⟨by rw [HF.out]; rfl, HG1.out, fun h => absurd h (by rw [HF.out]; decide)⟩
                · have HR : Hid (dimsTo met nm lo hi (k + 1) = 0) := by show _ = _; rw [HT.out, HD0.out, if_neg (by omega)]
                  have HM2 : Hid (NamesAt w1 b (metK met nm (k + 1))) := by show NamesAt _ _ _; rw [HSx.out]; exact HM1.out
                  go_wp2
                  go_roundw
                  case rel => exact ⟨k + 1, by omega, by go_num, HR.out, HG1.out, HM2.out⟩
                  case measure => simp [intOf]; omega
        · have HD0 : Hid (dimE M s x y = 11) := by
            show _ = _
            rw [dimE, if_neg]
            simp only [Bool.and_eq_true, Bool.not_eq_true']
            exact ht
          have HF : Hid (dimsTo met nm lo hi n = 11) := by show _ = _; rw [HE.out (by rw [HD0.out]; decide), HD0.out]
          have hno : nameB s = false ∨ inN M s = true := by
            cases h1 : nameB s
            · exact .inl rfl
            · cases h2 : inN M s
              · exact absurd ⟨h1, h2⟩ ht
              · exact .inr rfl
          have HTk := Lib.hid (s_takes_no b M s _ HA.out hno)
          clear ht hno hMK
          go_wp2_with fail
          refine HTk.out.mono ?_
          rintro e w1 ⟨rfl, rfl⟩
          go_wp2
          go_ret
          exact ⟨by rw [HF.out]; rfl, HG.out, fun h => absurd h (by rw [HF.out]; decide)⟩
      · obtain rfl : k = n := by omega
        go_wp2
        go_ret
        exact ⟨by rw [HK.out.1]; rfl, HK.out.2.1, fun _ => HK.out.2.2⟩
end Go.Proofs.YtogmbehomilalaaGreatDoor
end

/- Extents, and the error of coordinates. -/
section
namespace Go.Proofs.YtogmbehomilalaaGreatDoor
open Go Go.RowKit Go.Deep

theorem st {a b c : World} (h1 : Below a.heap.size a b) (h2 : Below b.heap.size b c) : Below a.heap.size a c := h1.trans (h2.mono h1.size)
theorem w64 {n : Int} (h1 : -9223372036854775808 ≤ n) (h2 : n ≤ 9223372036854775807) : IntKind.i64.wrap n = n := by rw [IntKind.wrap_i64]; omega
theorem i64_i {a b : Int} (h : IntKind.i64.wrap a = b) : Ending.returned (.int .i64 (IntKind.i64.wrap a)) = .returned (.int .i64 b) := by rw [h]
def lastZ (hi : Int) : Int := if hi ≤ 1073741824 then hi else 1073741824
abbrev DimV (s : ByteArray) (lo hi : Int) : Value := .agg #[.string s, .int .i64 lo, .int .i64 hi]
theorem dim_box (w : World) (s : ByteArray) (lo hi : Int) (W : World) (h : Below (w.alloc (.cells #[.string s, .int .i64 lo, .int .i64 hi] 57)).heap.size (w.alloc (.cells #[.string s, .int .i64 lo, .int .i64 hi] 57)) W) :
    W.cell? ⟨w.heap.size, 0, none⟩ = some (.string s) ∧ W.cell? ⟨w.heap.size, 1, none⟩ = some (.int .i64 lo) ∧ W.cell? ⟨w.heap.size, 2, none⟩ = some (.int .i64 hi) := by
  have hnw := heap_alloc_new w (Obj.cells #[.string s, .int .i64 lo, .int .i64 hi] 57)
  have hb := (h.block w.heap.size (by simp)).trans hnw
  refine ⟨?_, ?_, ?_⟩ <;> (rw [cell_of_row _ _ _ _ _ _ hb]; rfl)

set_option maxRecDepth 100000 in
set_option maxHeartbeats 1000000 in
theorem s_last (s : ByteArray) (lo hi : Int) (w : World) : Calls Tryz.prog 62 #[DimV s lo hi] w fun e w' => e = .returned (.int .i64 (lastZ hi)) ∧ Below w.heap.size w w' := by
  by_cases h : hi ≤ 1073741824
  · have e1 : lastZ hi = hi := if_pos h
    rw [e1]
    go_enter Tryz.func62, Tryz.ntmps62
    go_wp2
    go_ret
    exact ⟨rfl, (Below.refl _ _).alloc (Nat.le_refl _) _⟩
  · have e1 : lastZ hi = 1073741824 := if_neg h
    rw [e1]
    go_enter Tryz.func62, Tryz.ntmps62
    go_wp2
    go_ret
    exact ⟨rfl, (Below.refl _ _).alloc (Nat.le_refl _) _⟩
theorem last_bound {lo hi : Int} (h2 : lo ≤ hi) (h3 : lo ≤ 1073741824) : lastZ hi ≤ 1073741824 ∧ lo ≤ lastZ hi := by unfold lastZ; split <;> omega
/-- The integers of a slice. -/
def IntsAt (w : World) (A : Option Addr) (n : Nat) (xs : Nat → Int) : Prop :=
  0 < n → ∃ b o, A = some ⟨b, o, none⟩ ∧ b < w.heap.size ∧ ∀ k, k < n → w.cell? ⟨b, o + k, none⟩ = some (.int .i64 (xs k))
theorem IntsAt.below {w w' : World} {A : Option Addr} {n : Nat} {xs : Nat → Int} (h : IntsAt w A n xs) (hb : Below w.heap.size w w') : IntsAt w' A n xs := fun hn => by
  obtain ⟨b, o, h1, h2, h3⟩ := h hn
  exact ⟨b, o, h1, Nat.lt_of_lt_of_le h2 hb.size, fun k hk => (hb.cell (p := ⟨b, o + k, none⟩) h2).trans (h3 k hk)⟩
theorem DimsAt.below {w w' : World} {A : Option Addr} {n : Nat} {nm : Nat → ByteArray} {lo hi : Nat → Int} (h : DimsAt w A n nm lo hi) (hb : Below w.heap.size w w') : DimsAt w' A n nm lo hi := fun hn => by
  obtain ⟨b, o, h1, h2, h3⟩ := h hn
  refine ⟨b, o, h1, Nat.lt_of_lt_of_le h2 hb.size, fun k hk => ?_⟩
  obtain ⟨a1, a2, a3⟩ := h3 k hk
  exact ⟨(hb.cell (p := ⟨b, o + k * 3, none⟩) h2).trans a1, (hb.cell (p := ⟨b, o + k * 3 + 1, none⟩) h2).trans a2, (hb.cell (p := ⟨b, o + k * 3 + 2, none⟩) h2).trans a3⟩
/-- Are the first k coordinates of the dimensions? -/
def inTo (lo hi xs : Nat → Int) : Nat → Bool
  | 0 => true
  | k + 1 => inTo lo hi xs k && (decide (lo k ≤ xs k) && decide (xs k ≤ lastZ (hi k)))
theorem inTo_le {lo hi xs : Nat → Int} {k n : Nat} (h : inTo lo hi xs k = false) (hn : k ≤ n) : inTo lo hi xs n = false := by
  induction n with
  | zero => obtain rfl : k = 0 := by omega
            exact h
  | succ n ih =>
    by_cases e : k = n + 1
    · rw [← e]; exact h
    · rw [inTo, ih (by omega)]; rfl
def rangeE (b : Bool) : Int := bif b then 0 else 3
def placeEr (lo hi xs : Nat → Int) (n m : Nat) : Int := if n ≠ m then 13 else rangeE (inTo lo hi xs n)

set_option maxRecDepth 100000 in
set_option maxHeartbeats 4000000 in
theorem s_placeError (w : World) (A X : Option Addr) (n cap m cap' : Nat) (nm : Nat → ByteArray) (lo hi xs : Nat → Int) (hd : DimsAt w A n nm lo hi) (hx : IntsAt w X m xs) (hn : n ≤ 1000) (hm : m ≤ 1000) :
    Calls Tryz.prog 76 #[.slice A n cap, .slice X m cap'] w fun e w' => e = .returned (.int .i64 (placeEr lo hi xs n m)) ∧ Below w.heap.size w w' := by
  by_cases hnm : n = m
  · subst hnm
    have e1 : placeEr lo hi xs n n = rangeE (inTo lo hi xs n) := if_neg (by simp)
    rw [e1]
    clear e1
    have HD := Lib.hid hd
    have HX := Lib.hid hx
    have HL := Lib.hid s_last
    clear hd hx
    go_enter Tryz.func76, Tryz.ntmps76
    go_wp2
    go_loopw [5, 6, 14] (fun _ _ i wr => ∃ k : Nat, k ≤ n ∧ i = .int .i64 k ∧ Hid (inTo lo hi xs k = true ∧ Below w.heap.size w wr)) (fun _ _ i _ => n - (intOf i).toNat)
    case atStart => exact ⟨0, Nat.zero_le _, rfl, rfl, Below.refl _ _⟩
    case round =>
      obtain ⟨k, hk, rfl, HK⟩ := hrel
      by_cases hlt : k < n
      · obtain ⟨bd, o, rfl, _, hc⟩ := (HD.out.below HK.out.2) (by omega)
        obtain ⟨c0, c1, c2⟩ := hc k hlt
        clear hc
        obtain ⟨bx, ox, rfl, _, hcx⟩ := (HX.out.below HK.out.2) (by omega)
        have x0 := hcx k hlt
        clear hcx
        have HS : Hid (inTo lo hi xs (k + 1) = (decide (lo k ≤ xs k) && decide (xs k ≤ lastZ (hi k)))) := by show _ = _; rw [inTo, HK.out.1]; rfl
        have HF : Hid ((decide (lo k ≤ xs k) && decide (xs k ≤ lastZ (hi k))) = false → inTo lo hi xs n = false) := fun h => inTo_le (k := k + 1) (by rw [HS.out, h]) (by omega)
        have HB := Lib.hid HK.out.2
        generalize nm k = s at *
        generalize lo k = l0 at *
        generalize hi k = h0 at *
        generalize xs k = z at *
        by_cases g1 : z < l0
        · have HR : Hid (inTo lo hi xs n = false) := HF.out (by rw [decide_eq_false (by omega)]; rfl)
          go_wp2
          go_ret
          exact ⟨by rw [HR.out]; rfl, HB.out⟩
        · go_wp2_with fail
          refine (HL.out _ _ _ _).mono ?_
          rintro e w1 ⟨rfl, hb1⟩
          have HB1 : Hid (Below w.heap.size w w1) := st HB.out hb1
          by_cases g2 : z ≤ lastZ h0
          · have HR : Hid (inTo lo hi xs (k + 1) = true) := by show _ = _; rw [HS.out]; simp [g2]; omega
            have g3 : ¬ z > lastZ h0 := by omega
            generalize lastZ h0 = L at *
            go_wp2
            go_roundw
            case rel => exact ⟨k + 1, by omega, by go_num, HR.out, HB1.out⟩
            case measure => simp [intOf]; omega
          · have HR : Hid (inTo lo hi xs n = false) := HF.out (by simp [g2])
            have g3 : z > lastZ h0 := by omega
            generalize lastZ h0 = L at *
            go_wp2
            go_ret
            exact ⟨by rw [HR.out]; rfl, HB1.out⟩
      · obtain rfl : k = n := by omega
        go_wp2
        go_ret
        exact ⟨by rw [HK.out.1]; rfl, HK.out.2⟩
  · have e1 : placeEr lo hi xs n m = 13 := if_pos hnm
    have h1 : ((m : Int) != (n : Int)) = true := by rw [bne_iff_ne]; omega
    rw [e1]
    clear e1 hnm
    go_enter Tryz.func76, Tryz.ntmps76
    go_wp2
    go_ret
    exact ⟨rfl, Below.refl _ _⟩
end Go.Proofs.YtogmbehomilalaaGreatDoor
end

/- How many coordinates there are. -/
section
namespace Go.Proofs.YtogmbehomilalaaGreatDoor
open Go Go.RowKit Go.Deep

theorem made_names (w : World) : NamesAt (w.alloc (.map #[] 0)) w.heap.size [] := World.ownsMap_made w _ _ _
/-- The error of dimensions, with no names met before. -/
noncomputable def dimsZ (nm : Nat → ByteArray) (lo hi : Nat → Int) (n : Nat) : Int := dimsEr [] nm lo hi n
/-- What valid dimensions are like. -/
def DimsOk (lo hi : Nat → Int) (n : Nat) : Prop := ∀ k, k < n → -1073741824 ≤ lo k ∧ lo k ≤ 1073741824 ∧ lo k ≤ hi k ∧ hi k ≤ 1073741825
theorem dimsTo_ok {met : List ByteArray} {nm : Nat → ByteArray} {lo hi : Nat → Int} {n : Nat} (h : dimsTo met nm lo hi n = 0) : DimsOk lo hi n := by
  induction n with
  | zero => exact fun k hk => absurd hk (by omega)
  | succ n ih =>
    intro k hk
    by_cases h0 : dimsTo met nm lo hi n = 0
    · by_cases e : k = n
      · subst e
        rw [dimsTo, if_pos h0, dimE] at h
        split at h
        · split at h
          · exact absurd h (by decide)
          · omega
        · exact absurd h (by decide)
      · exact ih h0 k (by omega)
    · rw [dimsTo, if_neg h0] at h
      exact absurd h h0
theorem dimsZ_ok {nm : Nat → ByteArray} {lo hi : Nat → Int} {n : Nat} (h : dimsZ nm lo hi n = 0) : 1 ≤ n ∧ n ≤ 4 ∧ DimsOk lo hi n := by
  unfold dimsZ dimsEr at h
  split at h
  · exact absurd h (by decide)
  · exact ⟨by omega, by omega, dimsTo_ok h⟩

set_option maxRecDepth 100000 in
set_option maxHeartbeats 2000000 in
/-- dimsError of a new map. -/
theorem s_dims (w : World) (A : Option Addr) (n cap : Nat) (nm : Nat → ByteArray) (lo hi : Nat → Int) (hd : DimsAt w A n nm lo hi) :
    Calls Tryz.prog 112 #[.slice A n cap, .map (some w.heap.size)] (w.alloc (.map #[] 0)) fun e w' => e = .returned (.int .i64 (dimsZ nm lo hi n)) ∧ Below w.heap.size w w' ∧ w.heap.size < w'.heap.size ∧ (dimsZ nm lo hi n = 0 → NamesAt w' w.heap.size (metK [] nm n)) := by
  have hb : Below w.heap.size w (w.alloc (.map #[] 0)) := (Below.refl _ _).alloc (Nat.le_refl _) _
  refine (s_dimsError (w.alloc (.map #[] 0)) A n cap w.heap.size nm lo hi [] (hd.below hb) (fun hn a ha => ?_) (made_names w) (by decide)).mono ?_
  · obtain ⟨b, o, rfl, h2, _⟩ := hd hn
    injection ha with ha
    subst ha
    exact Nat.ne_of_lt h2
  · rintro e w' ⟨h1, hg, h3⟩
    have hz := hg.size
    rw [World.size_alloc] at hz
    exact ⟨h1, ⟨hg.os, hg.tape, hg.output, by omega, fun k hk => (hg.block k (by simp; omega) (fun e => by injection e with e; omega)).trans (hb.block k hk)⟩, by omega, h3⟩

end Go.Proofs.YtogmbehomilalaaGreatDoor
end
