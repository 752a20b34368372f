/- Make, whatever its cells. -/
import Derived.Test.YtogmbehomilalaaGreatDoorZMkN
import Derived.Test.YtogmbehomilalaaGreatDoorZCop
import Derived.Maps.AppendAt
import Derived.Test.YtogmbehomilalaaGreatDoorZLSa
import Derived.Laws.AppendOwnNone
import Derived.Test.YtogmbehomilalaaGreatDoorZCmpS

/- Make, whatever its cells. -/
section
namespace Go.Proofs.YtogmbehomilalaaGreatDoor
open Go Go.RowKit Go.Deep

/-- The first of k numbers that is not 0. -/
def fstE (E : Nat → Int) : Nat → Int
  | 0 => 0
  | k + 1 => if fstE E k = 0 then E k else fstE E k
theorem fstE_zero {E : Nat → Int} : ∀ {N : Nat}, fstE E N = 0 → ∀ k, k < N → E k = 0
  | 0, _, k, hk => absurd hk (by omega)
  | n + 1, h, k, hk => by
    rw [fstE] at h
    by_cases e : fstE E n = 0
    · rw [if_pos e] at h
      by_cases e2 : k = n
      · rw [e2]; exact h
      · exact fstE_zero e k (by omega)
    · rw [if_neg e] at h
      exact absurd h e
theorem fstE_all {E : Nat → Int} : ∀ {N : Nat}, (∀ k, k < N → E k = 0) → fstE E N = 0
  | 0, _ => rfl
  | n + 1, h => by rw [fstE, if_pos (fstE_all fun k hk => h k (by omega)), h n (by omega)]
theorem fstE_first {E : Nat → Int} : ∀ {N : Nat}, fstE E N ≠ 0 → ∃ K, K < N ∧ (∀ k, k < K → E k = 0) ∧ E K ≠ 0 ∧ fstE E N = E K
  | 0, h => absurd rfl h
  | n + 1, h => by
    rw [fstE] at h ⊢
    by_cases e : fstE E n = 0
    · rw [if_pos e] at h ⊢
      exact ⟨n, by omega, fstE_zero e, h, rfl⟩
    · rw [if_neg e]
      obtain ⟨K, h1, h2, h3, h4⟩ := fstE_first e
      exact ⟨K, by omega, h2, h3, h4⟩
/-- The error of a cell; of two that are neighbors in order. -/
def celE (lo hi : Nat → Int) (n : Nat) (ty : Nat → Int) (m : Nat) (c : CeD) (k : Nat) : Int := cellE lo hi n ty m (c.x k) (c.ln k) (c.vk k) (c.vn k) (c.vd k) (c.vs k) (c.vl k)
def adjE (n : Nat) (c : CeD) (r : Nat → Nat) (k : Nat) : Int := if k = 0 then 0 else if cmpS n n (c.x (r (k - 1))) (c.x (r k)) = 0 then 5 else 0
/-- The cells' order. -/
def srtR (n N : Nat) (c : CeD) (j : Nat) : Nat := (numR n (fun t => c.x (clN N t)) N)[j]!
noncomputable def makE (nm : Nat → ByteArray) (lo hi : Nat → Int) (n : Nat) (an : Nat → ByteArray) (ty : Nat → Int) (m N : Nat) (c : CeD) (r : Nat → Nat) : Int :=
  if manyE nm lo hi n an ty m N ≠ 0 then manyE nm lo hi n an ty m N else if fstE (celE lo hi n ty m c) N ≠ 0 then fstE (celE lo hi n ty m c) N else fstE (adjE n c r) N
theorem many_n {nm : Nat → ByteArray} {lo hi : Nat → Int} {n : Nat} {an : Nat → ByteArray} {ty : Nat → Int} {m N : Nat} (h : manyE nm lo hi n an ty m N = 0) : 1 ≤ n ∧ n ≤ 4 ∧ N ≤ 4096 := by
  unfold manyE at h
  by_cases e : schE nm lo hi n an ty m = 0
  · rw [if_neg (fun h9 => h9 e)] at h
    unfold schE at e
    by_cases e2 : dimsZ nm lo hi n = 0
    · have h3 := dimsZ_ok e2
      refine ⟨h3.1, h3.2.1, ?_⟩
      by_cases e3 : 4096 < N
      · rw [if_pos e3] at h; cases h
      · omega
    · rw [if_pos e2] at e
      exact absurd e e2
  · rw [if_pos e] at h
    exact absurd h e
/-- What Make returns. -/
def MkR (w : World) (D : ArD) (E : Int) (e : Ending) (w' : World) : Prop :=
  E ≠ 0 ∧ e = .returned (.tuple #[ArrV none 0 0 none 0 0 none 0 0, .int .i64 E]) ∨ E = 0 ∧ ∃ p : ArP, e = .returned (.tuple #[p.val D.n D.m D.N, .int .i64 0]) ∧ ArUp w' w.heap.size p D
theorem s_MakeA (w : World) (A B C : Option Addr) (n cap m bcap N ccap : Nat) (nm : Nat → ByteArray) (lo hi : Nat → Int) (an : Nat → ByteArray) (ty : Nat → Int) (c : CeD) (hd : DimsAt w A n nm lo hi) (ha : AttrsAt w B m an ty) (hc : CeAt w C N c) (hn : n ≤ 1000) (hm : m ≤ 1000) (hN : N ≤ 1000000) (ho : CeOk N c) :
    Calls Tryz.prog 10 #[.slice A n cap, .slice B m bcap, .slice C N ccap] w fun e w' => MkR w ⟨n, nm, lo, hi, m, an, ty, N, c.re (srtR n N c)⟩ (makE nm lo hi n an ty m N c (srtR n N c)) e w' ∧ Below w.heap.size w w' := by
  unfold makE
  by_cases h1 : manyE nm lo hi n an ty m N = 0
  · rw [if_neg (fun h => h h1)]
    by_cases h2 : fstE (celE lo hi n ty m c) N = 0
    · rw [if_neg (fun h => h h2)]
      have hce := fstE_zero h2
      have hn1 : 1 ≤ n := (many_n h1).1
      by_cases h3 : fstE (adjE n c (srtR n N c)) N = 0
      · rw [h3]
        by_cases h0 : N = 0
        · refine (s_Make_nil w A B C n cap m bcap N ccap nm lo hi an ty (c.re (srtR n N c)) hd ha hn hm h0 h1).mono ?_
          rintro e w' ⟨p, rfl, h4, h5⟩
          exact ⟨.inr ⟨rfl, p, rfl, h4⟩, h5⟩
        · have h9 := fstE_zero h3
          refine (s_Make_ok w A B C n cap m bcap N ccap nm lo hi an ty c hd ha hc hn1 hn hm (by omega) hN ho h1 hce (fun j hj1 hj => ?_)).mono ?_
          · have h8 := h9 j hj
            unfold adjE at h8
            rw [if_neg (by omega)] at h8
            intro h7
            have h7' : cmpS n n (c.x (srtR n N c (j - 1))) (c.x (srtR n N c j)) = 0 := h7
            rw [if_pos h7'] at h8
            cases h8
          · rintro e w' ⟨p, rfl, h4, h5⟩
            exact ⟨.inr ⟨rfl, p, rfl, h4⟩, h5⟩
      · obtain ⟨J, hJ, hb, hz, he⟩ := fstE_first h3
        have adj : ∀ j, 1 ≤ j → (adjE n c (srtR n N c) j = 0 ↔ cmpS n n (c.x ((numR n (fun t => c.x (clN N t)) N)[j - 1]!)) (c.x ((numR n (fun t => c.x (clN N t)) N)[j]!)) ≠ 0) := fun j hj => by
          unfold adjE
          rw [if_neg (by omega)]
          show (if cmpS n n (c.x ((numR n (fun t => c.x (clN N t)) N)[j - 1]!)) (c.x ((numR n (fun t => c.x (clN N t)) N)[j]!)) = 0 then (5 : Int) else 0) = 0 ↔ _
          split
          · exact ⟨fun h => absurd h (by decide), fun h => absurd (by assumption) h⟩
          · exact ⟨fun _ => by assumption, fun _ => rfl⟩
        have hJ1 : 1 ≤ J := by
          rcases Nat.eq_zero_or_pos J with e | e
          · subst e
            exact absurd rfl hz
          · exact e
        have hJ0 : cmpS n n (c.x ((numR n (fun t => c.x (clN N t)) N)[J - 1]!)) (c.x ((numR n (fun t => c.x (clN N t)) N)[J]!)) = 0 := Classical.byContradiction fun h => hz ((adj J hJ1).2 h)
        have h5 : fstE (adjE n c (srtR n N c)) N = 5 := by
          rw [he]
          unfold adjE
          rw [if_neg (by omega)]
          exact if_pos hJ0
        rw [h5]
        refine (s_Make_dup w A B C n cap m bcap N ccap J nm lo hi an ty c hd ha hc hn1 hn hm (by omega) hN ho h1 hce hJ1 hJ (fun j h6 h7 => (adj j h6).1 (hb j h7)) hJ0).mono ?_
        rintro e w' ⟨rfl, h6⟩
        exact ⟨.inl ⟨by decide, rfl⟩, h6⟩
    · rw [if_pos h2]
      obtain ⟨K, hK, hb, hz, he⟩ := fstE_first h2
      rw [he]
      refine (s_Make_cell w A B C n cap m bcap N ccap K nm lo hi an ty c hd ha hc hn hm hK hN h1 hb hz).mono ?_
      rintro e w' ⟨rfl, h6⟩
      exact ⟨.inl ⟨hz, rfl⟩, h6⟩
  · rw [if_pos h1]
    refine (s_Make_many w A B C n cap m bcap N ccap nm lo hi an ty hd ha h1).mono ?_
    rintro e w' ⟨rfl, h6⟩
    exact ⟨.inl ⟨h1, rfl⟩, h6⟩
end Go.Proofs.YtogmbehomilalaaGreatDoor
end

/- A list of cells that grows by append: where it lies. -/
section
namespace Go.Proofs.YtogmbehomilalaaGreatDoor
open Go Go.RowKit Go.Deep

theorem RowAt.grownO {w w' : World} {A : Option Addr} {n z : Nat} {f : Nat → Nat → Value} {row : Option Nat} (h : RowAt w A n z f) (hg : w.grownBy w' row) (hA : 0 < n → ∀ a, A = some a → row ≠ some a.block) : RowAt w' A n z f := fun hn => by
  obtain ⟨b', o, rfl, h2, h3⟩ := h hn
  have hne := hA hn _ rfl
  have hb := hg.block b' h2 (fun e => hne e.symm)
  refine ⟨b', o, rfl, Nat.lt_of_lt_of_le h2 hg.size, fun k r hk hr => ?_⟩
  rw [cell_blk hb]
  exact h3 k r hk hr
theorem RowAt.lt {w : World} {A : Option Addr} {n z : Nat} {f : Nat → Nat → Value} (h : RowAt w A n z f) (hn : 0 < n) {a : Addr} (ha : A = some a) : a.block < w.heap.size := by
  obtain ⟨b', o, rfl, h2, _⟩ := h hn
  injection ha with ha
  subst ha
  exact h2
/-- The slice v is the walk's own, from block B on, and holds n cells; their lists lie elsewhere. -/
def OwnC (S : Option Addr → Prop) (w : World) (B : Nat) (v : Value) (n : Nat) (c : CeD) : Prop :=
  ∃ xs, w.ownsRow B 38 2 v n xs ∧ ∀ k, k < n → ∃ P pc Q qc, xs[k * 2]? = some (.slice P (c.ln k) pc) ∧ xs[k * 2 + 1]? = some (.slice Q (c.vl k) qc) ∧ IntsAt w P (c.ln k) (c.x k) ∧ ValsAt w Q (c.vl k) (c.vk k) (c.vn k) (c.vd k) (c.vs k) ∧ (S P ∧ S Q) ∧
    (0 < c.ln k → ∀ a, P = some a → v.ownBlock ≠ some a.block) ∧ (0 < c.vl k → ∀ a, Q = some a → v.ownBlock ≠ some a.block)
theorem OwnC.nil (S : Option Addr → Prop) (w : World) (B : Nat) (c : CeD) : OwnC S w B (.slice none 0 0) 0 c := ⟨[], ⟨rfl, .inl ⟨rfl, rfl⟩⟩, fun k hk => absurd hk (by omega)⟩
theorem OwnC.below {S : Option Addr → Prop} {w w' : World} {B n : Nat} {v : Value} {c : CeD} (h : OwnC S w B v n c) (hb : Below w.heap.size w w') : OwnC S w' B v n c := by
  obtain ⟨xs, h1, h2⟩ := h
  refine ⟨xs, h1.kept (Below.by_ hb) ?_, fun k hk => ?_⟩
  · cases e : v.ownBlock with
    | none => exact .inl rfl
    | some g => exact .inr (by simp)
  · obtain ⟨P, pc, Q, qc, a1, a2, a3, a4, a5⟩ := h2 k hk
    exact ⟨P, pc, Q, qc, a1, a2, a3.below hb, a4.below hb, a5⟩
theorem OwnC.set {S : Option Addr → Prop} {w w' : World} {B n b : Nat} {v : Value} {c : CeD} (h : OwnC S w B v n c) (hg : w.grownBy w' (some b)) (hB : b < B) (hS : ∀ P, S P → ∀ a, P = some a → a.block ≠ b) : OwnC S w' B v n c := by
  obtain ⟨xs, h1, h2⟩ := h
  refine ⟨xs, h1.kept hg ?_, fun k hk => ?_⟩
  · cases e : v.ownBlock with
    | none => exact .inl rfl
    | some g =>
      obtain ⟨hg1, _⟩ := own_lt h1 g e
      refine .inr fun e2 => ?_
      injection e2 with e2
      omega
  · obtain ⟨P, pc, Q, qc, a1, a2, a3, a4, a5⟩ := h2 k hk
    exact ⟨P, pc, Q, qc, a1, a2, (a3.row.grown hg (fun _ => hS P a5.1.1)).ints, (a4.row.grown hg (fun _ => hS Q a5.1.2)).vals, a5⟩
theorem OwnC.block {S : Option Addr → Prop} {w : World} {B n : Nat} {v : Value} {c : CeD} (h : OwnC S w B v n c) {g : Nat} (hg : v.ownBlock = some g) : B ≤ g ∧ g < w.heap.size := by
  obtain ⟨xs, h1, _⟩ := h
  obtain ⟨a, cs, b⟩ := own_lt h1 g hg
  exact ⟨a, (Array.getElem?_eq_some_iff.1 b).1⟩
theorem OwnC.row {S : Option Addr → Prop} {w : World} {B n : Nat} {v : Value} {c : CeD} (h : OwnC S w B v n c) : ∃ A cap, v = .slice A n cap ∧ (0 < n → ∃ b, A = some ⟨b, 0, none⟩ ∧ B ≤ b ∧ b < w.heap.size ∧ ∀ k, k < n → ∃ P pc Q qc, w.cell? ⟨b, k * 2, none⟩ = some (.slice P (c.ln k) pc) ∧ w.cell? ⟨b, k * 2 + 1, none⟩ = some (.slice Q (c.vl k) qc) ∧ IntsAt w P (c.ln k) (c.x k) ∧ ValsAt w Q (c.vl k) (c.vk k) (c.vn k) (c.vd k) (c.vs k) ∧ (S P ∧ S Q)) := by
  obtain ⟨xs, ⟨hl, h1⟩, h2⟩ := h
  rcases h1 with ⟨rfl, rfl⟩ | ⟨g, cap, cur, rfl, hBg, hh, hcap, _, hs, ht⟩
  · exact ⟨none, 0, rfl, fun h => absurd h (by omega)⟩
  · refine ⟨_, _, rfl, fun hn => ⟨g, rfl, hBg, (Array.getElem?_eq_some_iff.1 hh).1, fun k hk => ?_⟩⟩
    obtain ⟨P, pc, Q, qc, a1, a2, a3, a4, a5, _⟩ := h2 k hk
    have get : ∀ j u, j < n * 2 → xs[j]? = some u → w.cell? ⟨g, j, none⟩ = some u := fun j u hj hu => by
      have h3 : cur.toList[j]? = some u := by
        rw [← List.getElem?_take_of_lt hj, ht]
        exact hu
      rw [Array.getElem?_toList] at h3
      simp [World.cell?, hh, h3]
    exact ⟨P, pc, Q, qc, get _ _ (by omega) a1, get _ _ (by omega) a2, a3, a4, a5⟩
theorem OwnC.at {S : Option Addr → Prop} {w : World} {B n : Nat} {v : Value} {c : CeD} (h : OwnC S w B v n c) (ho : CeOk n c) : ∃ A cap, v = .slice A n cap ∧ CeAt w A n c := by
  obtain ⟨A, cap, h1, h2⟩ := h.row
  refine ⟨A, cap, h1, fun hn => ?_⟩
  obtain ⟨b, h3, h4, h5, h6⟩ := h2 hn
  refine ⟨b, 0, h3, h5, fun k hk => ?_⟩
  obtain ⟨P, pc, Q, qc, a1, a2, a3, a4, a5⟩ := h6 k hk
  exact ⟨P, pc, Q, qc, by rw [Nat.zero_add]; exact a1, by rw [Nat.zero_add]; exact a2, a3, a4, (ho k hk).1⟩
theorem OwnC.up {w : World} {B B' n : Nat} {v : Value} {c : CeD} (h : OwnC (Up B') w B v n c) (hB : B' ≤ B) (ho : CeOk n c) : ∃ A cap, v = .slice A n cap ∧ CeUp w B' A n c := by
  obtain ⟨A, cap, h1, h2⟩ := h.row
  refine ⟨A, cap, h1, fun hn => ?_⟩
  obtain ⟨b, h3, h4, h5, h6⟩ := h2 hn
  refine ⟨b, 0, h3, by omega, h5, fun k hk => ?_⟩
  obtain ⟨P, pc, Q, qc, a1, a2, a3, a4, a5⟩ := h6 k hk
  exact ⟨P, pc, Q, qc, by rw [Nat.zero_add]; exact a1, by rw [Nat.zero_add]; exact a2, a3, a4, (ho k hk).1, a5⟩
theorem info_cel2 : (Tryz.prog.info? 38).map (fun i => (i.zero, i.size, i.bytes)) = some (some (.agg #[.slice none 0 0, .slice none 0 0]), 2, 48) := by kernel_rfl
/-- One cell more, behind a literal of one cell: the list lies where it lay, or in a new block. -/
theorem wpList_appC {ops : Array Oper} {rest : List Oper} {o : Oper} {a : Act} {Q' : Exit → Act → World → Prop} (hgd : o.guard = none) (s x : Operand)
    (ho : o.op = .call { callee := .builtin .append, args := #[s, x], argTypes := #[24, 24] })
    (W : World) (S : Option Addr → Prop) (B : Nat) (v : Value) (n : Nat) (c : CeD) (hs : a.eval s = v) (b : Nat) (hx : a.eval x = .slice (some ⟨b, 0, none⟩) 1 1)
    (P Q : Option Addr) (pc qc : Nat) (hb : W.heap[b]? = some (.cells #[.slice P (c.ln n) pc, .slice Q (c.vl n) qc] 38 (0, 0)))
    (hi : IntsAt W P (c.ln n) (c.x n)) (hv : ValsAt W Q (c.vl n) (c.vk n) (c.vn n) (c.vd n) (c.vs n)) (hS : S P ∧ S Q)
    (hne : (0 < c.ln n → ∀ a, P = some a → v.ownBlock ≠ some a.block) ∧ (0 < c.vl n → ∀ a, Q = some a → v.ownBlock ≠ some a.block))
    (hown : OwnC S W B v n c) (hn : n ≤ 1000000) (hB : B ≤ W.heap.size)
    (h : ∀ v' w', OwnC S w' B v' (n + 1) c → W.grownBy w' v.ownBlock → (v'.ownBlock = v.ownBlock ∨ ∃ g, v'.ownBlock = some g ∧ W.heap.size ≤ g) → wpList Tryz.prog ops Q' rest (a.put o.dst v') w') : wpList Tryz.prog ops Q' (o :: rest) a W := by
  obtain ⟨xs, h1, h2⟩ := hown
  obtain ⟨i0, hi0, hz0, hz1, hz2⟩ := info_parts info_cel2
  have hlb : b < W.heap.size := (Array.getElem?_eq_some_iff.1 hb).1
  have hnew : ∀ j u, [Value.slice P (c.ln n) pc, Value.slice Q (c.vl n) qc][j]? = some u → W.cell? ((⟨b, 0, none⟩ : Addr).add j) = some u := by
    intro j u hu
    rcases j with _ | _ | j
    · have hu' : u = .slice P (c.ln n) pc := by simpa using hu.symm
      subst hu'
      simp [World.cell?, hb, Addr.add]
    · have hu' : u = .slice Q (c.vl n) qc := by simpa using hu.symm
      subst hu'
      simp [World.cell?, hb, Addr.add]
    · simp at hu
  refine wpList_append_own_at _ hgd s x 24 ho B 38 i0 (.agg #[.slice none 0 0, .slice none 0 0]) 2 48 Tryz.underlying24 hi0 hz0 hz1 hz2 rfl (by decide) v n xs hs h1 ⟨b, 0, none⟩ 1 1 [.slice P (c.ln n) pc, .slice Q (c.vl n) qc] hx rfl hnew
    (fun u hu => by
      simp only [List.mem_cons, List.not_mem_nil, or_false] at hu
      rcases hu with rfl | rfl <;> rfl) (by unfold maxLen; omega) (by omega) hB ?_
  intro v' w' g1 g2 _ g4
  have hl : xs.length = n * 2 := h1.1
  have apart : ∀ (A : Option Addr) (z m : Nat) (f : Nat → Nat → Value), RowAt W A m z f → (0 < m → ∀ a, A = some a → v.ownBlock ≠ some a.block) → 0 < m → ∀ a, A = some a → v'.ownBlock ≠ some a.block := by
    intro A z m f hr hp hm ad had
    rcases g4 with e | h9
    · rw [e]; exact hp hm ad had
    · have h8 := hr.lt hm had
      intro e
      rw [e] at h9
      injection h9 with h9
      omega
  refine h v' w' ⟨xs ++ [.slice P (c.ln n) pc, .slice Q (c.vl n) qc], g1, fun k hk => ?_⟩ g2 (g4.imp id fun h9 => ⟨_, h9, Nat.le_refl _⟩)
  by_cases e : k = n
  · subst e
    refine ⟨P, pc, Q, qc, ?_, ?_, (hi.row.grownO g2 hne.1).ints, (hv.row.grownO g2 hne.2).vals, hS, apart _ _ _ _ hi.row hne.1, apart _ _ _ _ hv.row hne.2⟩
    · rw [List.getElem?_append_right (by omega), hl, Nat.sub_self]; rfl
    · rw [List.getElem?_append_right (by omega), hl, show k * 2 + 1 - k * 2 = 1 by omega]; rfl
  · obtain ⟨P', pc', Q', qc', a1, a2, a3, a4, a5, a6, a7⟩ := h2 k (by omega)
    refine ⟨P', pc', Q', qc', ?_, ?_, (a3.row.grownO g2 a6).ints, (a4.row.grownO g2 a7).vals, a5, apart _ _ _ _ a3.row a6, apart _ _ _ _ a4.row a7⟩
    · rw [List.getElem?_append_left (by omega)]; exact a1
    · rw [List.getElem?_append_left (by omega)]; exact a2
end Go.Proofs.YtogmbehomilalaaGreatDoor
end

/- A whole slice appended, nil or not. -/
section
namespace Go.Proofs.YtogmbehomilalaaGreatDoor
open Go Go.RowKit Go.Deep Go.Shelf

theorem run_app_none {P : Program} {w : World} (base : Nat) (t ty e : TypeId) (i : TypeInfo) (size : Nat) (ht : P.underlying t = some (.slice e)) (hi : P.info? e = some i)
    (v : Value) (n c : Nat) (xs : List Value) (hown : w.ownsRow base e size v n xs) :
    (Builtin.append_ #[t, t] ty #[v, .slice none 0 c]).run P w = .ok v w := by
  rcases hown.2 with ⟨rfl, rfl⟩ | ⟨g, cap, cur, rfl, _, _, hnc, _⟩
  · simp [Builtin.append_, run_underlying ht, sizeOf, typeInfo, hi, Builtin.lenOf, Builtin.firstCells]
  · simp [Builtin.append_, run_underlying ht, sizeOf, typeInfo, hi, Builtin.lenOf, Builtin.firstCells, hnc, storeCells]
theorem wpList_app_none {P : Program} {w : World} {ops : Array Oper} {rest : List Oper} {o : Oper} {a : Act} {Q : Exit → Act → World → Prop} (hgd : o.guard = none) (s x : Operand) (t : TypeId)
    (ho : o.op = .call { callee := .builtin .append, args := #[s, x], argTypes := #[t, t] })
    (base : Nat) (e : TypeId) (i : TypeInfo) (size : Nat) (ht : P.underlying t = some (.slice e)) (hi : P.info? e = some i)
    (v : Value) (n c : Nat) (xs : List Value) (hs : a.eval s = v) (hown : w.ownsRow base e size v n xs) (hx : a.eval x = .slice none 0 c)
    (h : wpList P ops Q rest (a.put o.dst v) w) : wpList P ops Q (o :: rest) a w := by
  refine wpList_plain hgd fun K hK => ?_
  have hrun := run_app_none (P := P) (w := w) base t o.type e i size ht hi v n c xs hown
  unfold Oper.wp
  simp [execOp, ho, resolve, invoke, builtin, hs, hx, hrun, Result.andThen]
  exact hK _ _ h
theorem rowL_nil (f : Nat → Nat → Value) (z : Nat) : rowL f z 0 = [] := by simp [rowL]
end Go.Proofs.YtogmbehomilalaaGreatDoor
end

/- A whole slice of cells appended, nil or not. -/
section
namespace Go.Proofs.YtogmbehomilalaaGreatDoor
open Go Go.RowKit Go.Deep Go.Shelf

/-- append(v, x...), x a slice whose cells are known as a row, and where the list lies. -/
theorem wpList_app_rowA {P : Program} {w : World} {ops : Array Oper} {rest : List Oper} {o : Oper} {a : Act} {Q : Exit → Act → World → Prop} (hgd : o.guard = none) (s x : Operand) (t : TypeId)
    (ho : o.op = .call { callee := .builtin .append, args := #[s, x], argTypes := #[t, t] })
    (base : Nat) (e : TypeId) (i : TypeInfo) (z : Value) (size bytes : Nat) (ht : P.underlying t = some (.slice e)) (hi : P.info? e = some i) (hz : i.zero = some z)
    (hsize : i.size = size) (hby : i.bytes = bytes) (hzs : z.cells.size = size) (hsz : 0 < size)
    (v : Value) (n : Nat) (xs : List Value) (hs : a.eval s = v) (hown : w.ownsRow base e size v n xs)
    (A : Option Addr) (m c : Nat) (f : Nat → Nat → Value) (hx : a.eval x = .slice A m c) (hrow : RowAt w A m size f) (h1 : ∀ k r, (f k r).oneCell' = true)
    (h63 : n + m ≤ maxLen) (hbytes : (n + m) * bytes ≤ 140737488355328) (hbase : base ≤ w.heap.size)
    (h : ∀ v' w', w'.ownsRow base e size v' (n + m) (xs ++ rowL f size m) → w.grownBy w' v.ownBlock → (v'.ownBlock = v.ownBlock ∨ v'.ownBlock = some w.heap.size) → wpList P ops Q rest (a.put o.dst v') w') :
    wpList P ops Q (o :: rest) a w := by
  cases A with
  | none =>
    have hm : m = 0 := by
      rcases Nat.eq_zero_or_pos m with h0 | h0
      · exact h0
      · obtain ⟨b, o, h1, _⟩ := hrow h0
        cases h1
    subst hm
    refine wpList_app_none hgd s x t ho base e i size ht hi v n c xs hs hown hx (h v w ?_ ⟨rfl, rfl, rfl, Nat.le_refl _, fun _ _ _ => rfl⟩ (.inl rfl))
    rw [rowL_nil, List.append_nil]
    exact hown
  | some ad =>
    exact wpList_append_own_at w hgd s x t ho base e i z size bytes ht hi hz hsize hby hzs hsz v n xs hs hown ad m c (rowL f size m) hx (rowL_len _ _ _) (hrow.news hsz) (rowL_one h1) h63 hbytes hbase fun v' w' g1 g2 _ g4 => h v' w' g1 g2 g4
/-- Cells by a list of their numbers. -/
def CeD.of (T : CeD) (L : List Nat) : CeD := ⟨fun k => T.ln (L[k]!), fun k => T.vl (L[k]!), fun k => T.x (L[k]!), fun k => T.vk (L[k]!), fun k => T.vn (L[k]!), fun k => T.vd (L[k]!), fun k => T.vs (L[k]!)⟩
theorem getL_left {L M : List Nat} {k : Nat} (h : k < L.length) : (L ++ M)[k]! = L[k]! := by
  rw [List.getElem!_eq_getElem?_getD, List.getElem!_eq_getElem?_getD, List.getElem?_append_left h]
theorem getL_right {L M : List Nat} {k : Nat} (h : L.length ≤ k) : (L ++ M)[k]! = M[k - L.length]! := by
  rw [List.getElem!_eq_getElem?_getD, List.getElem!_eq_getElem?_getD, List.getElem?_append_right h]
set_option maxRecDepth 100000 in
theorem wpList_appCs {ops : Array Oper} {rest : List Oper} {o : Oper} {a : Act} {Q' : Exit → Act → World → Prop} (hgd : o.guard = none) (s x : Operand)
    (ho : o.op = .call { callee := .builtin .append, args := #[s, x], argTypes := #[24, 24] })
    (W0 W : World) (B : Nat) (v : Value) (n : Nat) (T : CeD) (L M : List Nat) (hs : a.eval s = v) (A : Option Addr) (m cc : Nat) (hx : a.eval x = .slice A m cc) (hM : m = M.length) (hL : n = L.length)
    (hy : CeAt W0 A m (T.of M)) (hb : Below W0.heap.size W0 W) (hB0 : W0.heap.size ≤ B) (hown : OwnC (fun _ => True) W B v n (T.of L)) (hn : n ≤ 1000000) (hm : m ≤ 1000000) (hB : B ≤ W.heap.size)
    (h : ∀ v' w', OwnC (fun _ => True) w' B v' (n + m) (T.of (L ++ M)) → W.grownBy w' v.ownBlock → wpList Tryz.prog ops Q' rest (a.put o.dst v') w') : wpList Tryz.prog ops Q' (o :: rest) a W := by
  subst hM hL
  obtain ⟨xs, h1, h2⟩ := hown
  obtain ⟨i0, hi0, hz0, hz1, hz2⟩ := info_parts info_cel2
  have hex : ∀ k, ∃ pq : Value × Value, (∃ P c, pq.1 = .slice P (T.ln (M[k]!)) c ∧ (k < M.length → IntsAt W0 P (T.ln (M[k]!)) (T.x (M[k]!)))) ∧ (∃ Q c, pq.2 = .slice Q (T.vl (M[k]!)) c ∧ (k < M.length → ValsAt W0 Q (T.vl (M[k]!)) (T.vk (M[k]!)) (T.vn (M[k]!)) (T.vd (M[k]!)) (T.vs (M[k]!)))) ∧
      (k < M.length → ∃ b o, A = some ⟨b, o, none⟩ ∧ b < W0.heap.size ∧ W0.cell? ⟨b, o + k * 2, none⟩ = some pq.1 ∧ W0.cell? ⟨b, o + k * 2 + 1, none⟩ = some pq.2) := fun k => by
    by_cases hk : k < M.length
    · obtain ⟨b, o, e1, e2, e3⟩ := hy (by omega)
      obtain ⟨P, c, Q, d, a1, a2, a3, a4, _⟩ := e3 k hk
      exact ⟨(_, _), ⟨P, c, rfl, fun _ => a3⟩, ⟨Q, d, rfl, fun _ => a4⟩, fun _ => ⟨b, o, e1, e2, a1, a2⟩⟩
    · exact ⟨(.slice none _ 0, .slice none _ 0), ⟨none, 0, rfl, fun h => absurd h hk⟩, ⟨none, 0, rfl, fun h => absurd h hk⟩, fun h => absurd h hk⟩
  obtain ⟨pq, hpq⟩ := Classical.axiomOfChoice hex
  have hrow : RowAt W A M.length 2 (fun k r => if r = 0 then (pq k).1 else (pq k).2) := fun h0 => by
    obtain ⟨b, o, e1, e2, _⟩ := (hpq 0).2.2 h0
    refine ⟨b, o, e1, Nat.lt_of_lt_of_le e2 hb.size, fun k r hk hr => ?_⟩
    obtain ⟨b', o', e1', _, c0, c1⟩ := (hpq k).2.2 hk
    rw [e1] at e1'
    injection e1' with e1'
    injection e1' with e3 e4 _
    subst e3 e4
    rcases (by omega : r = 0 ∨ r = 1) with rfl | rfl
    · exact (hb.cell (p := ⟨b, o + k * 2, none⟩) e2).trans c0
    · exact (hb.cell (p := ⟨b, o + k * 2 + 1, none⟩) e2).trans c1
  refine wpList_app_rowA hgd s x 24 ho B 38 i0 (.agg #[.slice none 0 0, .slice none 0 0]) 2 48 Tryz.underlying24 hi0 hz0 hz1 hz2 rfl (by decide) v L.length xs hs h1 A M.length cc _ hx hrow (fun k r => by
    obtain ⟨⟨P, c, e1, _⟩, ⟨Q, d, e2, _⟩, _⟩ := hpq k
    show (if r = 0 then (pq k).1 else (pq k).2).oneCell' = true
    split
    · rw [e1]; rfl
    · rw [e2]; rfl) (by unfold maxLen; omega) (by omega) hB ?_
  intro v' w' g1 g2 g4
  have hl : xs.length = L.length * 2 := h1.1
  have apart : ∀ (A : Option Addr) (z m : Nat) (f : Nat → Nat → Value), RowAt W A m z f → (0 < m → ∀ a, A = some a → v.ownBlock ≠ some a.block) → 0 < m → ∀ a, A = some a → v'.ownBlock ≠ some a.block := by
    intro A z m f hr hp hm ad had
    rcases g4 with e | h9
    · rw [e]; exact hp hm ad had
    · have h8 := hr.lt hm had
      intro e
      rw [e] at h9
      injection h9 with h9
      omega
  have far : ∀ (A : Option Addr) (z m : Nat) (f : Nat → Nat → Value), RowAt W0 A m z f → 0 < m → ∀ a, A = some a → v.ownBlock ≠ some a.block := fun A z m f hr hm a ha e => by
    have h8 := hr.lt hm ha
    obtain ⟨h9, _⟩ := own_lt h1 _ e
    omega
  refine h v' w' ⟨_, g1, fun k hk => ?_⟩ g2
  by_cases e : k < L.length
  · obtain ⟨P', pc', Q', qc', a1, a2, a3, a4, _, a6, a7⟩ := h2 k e
    have eg : (L ++ M)[k]! = L[k]! := getL_left e
    refine ⟨P', pc', Q', qc', ?_, ?_, ?_, ?_, ⟨trivial, trivial⟩, ?_, ?_⟩
    · rw [List.getElem?_append_left (by omega)]; show _ = some (Value.slice P' (T.ln ((L ++ M)[k]!)) pc'); rw [eg]; exact a1
    · rw [List.getElem?_append_left (by omega)]; show _ = some (Value.slice Q' (T.vl ((L ++ M)[k]!)) qc'); rw [eg]; exact a2
    · show IntsAt w' P' (T.ln ((L ++ M)[k]!)) (T.x ((L ++ M)[k]!)); rw [eg]; exact (a3.row.grownO g2 a6).ints
    · show ValsAt w' Q' (T.vl ((L ++ M)[k]!)) (T.vk ((L ++ M)[k]!)) (T.vn ((L ++ M)[k]!)) (T.vd ((L ++ M)[k]!)) (T.vs ((L ++ M)[k]!)); rw [eg]; exact (a4.row.grownO g2 a7).vals
    · show 0 < T.ln ((L ++ M)[k]!) → _; rw [eg]; exact apart _ _ _ _ a3.row a6
    · show 0 < T.vl ((L ++ M)[k]!) → _; rw [eg]; exact apart _ _ _ _ a4.row a7
  · have eg : (L ++ M)[k]! = M[k - L.length]! := getL_right (by omega)
    obtain ⟨⟨P, c, e1, a3⟩, ⟨Q, d, e2, a4⟩, _⟩ := hpq (k - L.length)
    have a3 := a3 (by omega)
    have a4 := a4 (by omega)
    have gw : ∀ j, j < 2 → (xs ++ rowL (fun k r => if r = 0 then (pq k).1 else (pq k).2) 2 M.length)[k * 2 + j]? = some (if j = 0 then (pq (k - L.length)).1 else (pq (k - L.length)).2) := fun j hj => by
      rw [List.getElem?_append_right (by omega), hl]
      have hjl : k * 2 + j - L.length * 2 < M.length * 2 := by omega
      simp only [rowL, List.getElem?_map, List.getElem?_range hjl, Option.map_some]
      rw [show (k * 2 + j - L.length * 2) / 2 = k - L.length by omega, show (k * 2 + j - L.length * 2) % 2 = j by omega]
    refine ⟨P, c, Q, d, ?_, ?_, ?_, ?_, ⟨trivial, trivial⟩, ?_, ?_⟩
    · have := gw 0 (by omega); rw [Nat.add_zero, if_pos rfl, e1] at this; rw [this]; show _ = some (Value.slice P (T.ln ((L ++ M)[k]!)) c); rw [eg]
    · have := gw 1 (by omega); rw [if_neg (by decide), e2] at this; rw [this]; show _ = some (Value.slice Q (T.vl ((L ++ M)[k]!)) d); rw [eg]
    · show IntsAt w' P (T.ln ((L ++ M)[k]!)) (T.x ((L ++ M)[k]!)); rw [eg]; exact ((a3.below hb).row.grownO g2 (far _ _ _ _ a3.row)).ints
    · show ValsAt w' Q (T.vl ((L ++ M)[k]!)) (T.vk ((L ++ M)[k]!)) (T.vn ((L ++ M)[k]!)) (T.vd ((L ++ M)[k]!)) (T.vs ((L ++ M)[k]!)); rw [eg]; exact ((a4.below hb).row.grownO g2 (far _ _ _ _ a4.row)).vals
    · show 0 < T.ln ((L ++ M)[k]!) → _; rw [eg]; exact apart _ _ _ _ (a3.below hb).row (far _ _ _ _ a3.row)
    · show 0 < T.vl ((L ++ M)[k]!) → _; rw [eg]; exact apart _ _ _ _ (a4.below hb).row (far _ _ _ _ a4.row)
end Go.Proofs.YtogmbehomilalaaGreatDoor
end

/- The reference's comparison of coordinates. -/
section
namespace Go.Proofs.YtogmbehomilalaaGreatDoor
open Go Go.RowKit Go.Deep

set_option maxRecDepth 100000 in
set_option maxHeartbeats 2000000 in
theorem r_Compare (w : World) (A B : Option Addr) (n c m d : Nat) (f g : Nat → Int) (ha : IntsAt w A n f) (hb : IntsAt w B m g) (hn : n ≤ 1000000) (hm : m ≤ 1000000) :
    Calls Tryz.prog 32 #[.slice A n c, .slice B m d] w fun e w' => e = .returned (.int .i64 (cmpS n m f g)) ∧ Below w.heap.size w w' := by
  have HA := Lib.hid ha
  have HB := Lib.hid hb
  obtain ⟨ve, hve⟩ : ∃ ve, cmpS n m f g = ve := ⟨_, rfl⟩
  rw [hve]
  have HV : Hid (ve = if cmpTo f g m n = 0 then (if n < m then -1 else 0) else cmpTo f g m n) := hve.symm
  clear ha hb hve
  go_enter Tryz.func32, Tryz.ntmps32
  go_wp2
  go_loopw [5] (fun i wr => ∃ k : Nat, k ≤ n ∧ k ≤ m ∧ i = .int .i64 k ∧ Hid (cmpTo f g m k = 0) ∧ Hid (Below w.heap.size w wr)) (fun i _ => n - (intOf i).toNat)
  case atStart => exact ⟨0, Nat.zero_le _, Nat.zero_le _, rfl, rfl, Below.refl _ _⟩
  case round =>
    obtain ⟨k, hk, hkm, rfl, HK, HBw⟩ := hrel
    by_cases hlt : k < n
    · have HS : Hid (cmpTo f g m (k + 1) = if m ≤ k then 1 else Lib.compareInt (f k) (g k)) := by show _ = _; rw [cmpTo, if_pos HK.out]
      by_cases hlm : k < m
      · obtain ⟨b1, o1, rfl, _, hc1⟩ := (HA.out.below HBw.out) (by omega)
        have x0 := hc1 k hlt
        obtain ⟨b2, o2, rfl, _, hc2⟩ := (HB.out.below HBw.out) (by omega)
        have y0 := hc2 k hlm
        clear hc1 hc2
        rw [if_neg (by omega)] at HS
        have HE : Hid (Lib.compareInt (f k) (g k) ≠ 0 → ve = Lib.compareInt (f k) (g k)) := fun h => by
          have h1 := cmpTo_le (f := f) (g := g) (m := m) (k := k + 1) (n := n) (by rw [HS.out]; exact h) (by omega)
          rw [HV.out, h1, HS.out, if_neg h]
        have hx0 : ∀ W, Below wr.heap.size wr W → True := fun _ _ => trivial
        have HCW : Hid (∀ n9, (wr.drewN n9).cell? ⟨b1, o1 + k, none⟩ = some (.int .i64 (f k)) ∧ (wr.drewN n9).cell? ⟨b2, o2 + k, none⟩ = some (.int .i64 (g k))) := fun n9 => ⟨x0, y0⟩
        clear hx0
        have HD : Hid (Lib.compareInt (f k) (g k) = if f k < g k then -1 else if g k < f k then 1 else 0) := rfl
        generalize f k = x at *
        generalize g k = y at *
        by_cases g1 : x < y
        · have HF : Hid (ve = -1) := by
            have h9 : Lib.compareInt x y = -1 := by rw [HD.out, if_pos g1]
            rw [h9] at HE
            exact HE.out (by decide)
          go_wp2
          go_quiet (fail)
          go_wp2
          go_ret
          exact ⟨by rw [HF.out]; rfl, drewB HBw.out _⟩
        · by_cases g2 : y < x
          · have HF : Hid (ve = 1) := by
              have h9 : Lib.compareInt x y = 1 := by rw [HD.out, if_neg g1, if_pos g2]
              rw [h9] at HE
              exact HE.out (by decide)
            have g3 : x > y := g2
            clear HE HD HS
            go_wp2
            go_quiet (fail)
            have HB1 : Hid (Below w.heap.size w (wr.drewN nq)) := drewB HBw.out _
            obtain ⟨x1, y1⟩ := HCW.out nq
            clear x0 y0 HCW
            generalize wr.drewN nq = wq at *
            go_wp2
            go_quiet (fail)
            go_wp2
            go_ret
            exact ⟨by rw [HF.out]; rfl, drewB HB1.out _⟩
          · have HR : Hid (cmpTo f g m (k + 1) = 0) := by show _ = _; rw [HS.out, HD.out, if_neg g1, if_neg g2]
            have g3 : ¬ x > y := g2
            clear HE HD HS
            go_wp2
            go_quiet (fail)
            have HB1 : Hid (Below w.heap.size w (wr.drewN nq)) := drewB HBw.out _
            obtain ⟨x1, y1⟩ := HCW.out nq
            clear x0 y0 HCW
            generalize wr.drewN nq = wq at *
            go_wp2
            go_quiet (fail)
            go_wp2
            go_roundw
            case rel => exact ⟨k + 1, by omega, by omega, by go_num, HR.out, drewB HB1.out _⟩
            case measure => simp [intOf]; omega
      · have HF : Hid (ve = 1) := by
          show _ = _
          have h1 : cmpTo f g m (k + 1) = 1 := by rw [HS.out, if_pos (by omega)]
          rw [HV.out, cmpTo_le (k := k + 1) (by rw [h1]; decide) (by omega), h1]; rfl
        have h2 : ¬ (k : Int) < (m : Int) := by omega
        have h3 : ¬ (n : Int) < (m : Int) := by omega
        have h4 : (n : Int) > (m : Int) := by omega
        go_wp2
        go_ret
        exact ⟨by rw [HF.out]; rfl, HBw.out⟩
    · obtain rfl : k = n := by omega
      rw [if_pos HK.out] at HV
      by_cases hkm2 : k < m
      · rw [if_pos hkm2] at HV
        have hkm' : (k : Int) < (m : Int) := by omega
        go_wp2
        go_ret
        exact ⟨by rw [HV.out]; rfl, HBw.out⟩
      · rw [if_neg hkm2] at HV
        have hkm' : ¬ (k : Int) < (m : Int) := by omega
        have hkm3 : ¬ (k : Int) > (m : Int) := by omega
        go_wp2
        go_ret
        exact ⟨by rw [HV.out]; rfl, HBw.out⟩
end Go.Proofs.YtogmbehomilalaaGreatDoor
end
