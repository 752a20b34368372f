/- Few cells, with few coordinates and values. -/
import Derived.Test.YtogmbehomilalaaGreatDoorZLSa
import Derived.Test.YtogmbehomilalaaGreatDoorZWka
import Derived.Test.YtogmbehomilalaaGreatDoorZPrt2
import Derived.Test.YtogmbehomilalaaGreatDoorZSpE
import Derived.Test.YtogmbehomilalaaGreatDoorZSmA
import Derived.Test.YtogmbehomilalaaGreatDoorZSds
import Derived.Maps.AppendAt
import Derived.Laws.AppendOwnNone

/- Few cells, with few coordinates and values. -/
section
namespace Go.Proofs.YtogmbehomilalaaGreatDoor
open Go Go.RowKit Go.Deep

/-- Few cells, with few coordinates and values. -/
def CelsB (N : Nat) (most : Int) (ln vl : Nat → Nat) : Prop := (N : Int) ≤ most ∧ ∀ k, k < N → ln k ≤ 10 ∧ vl k ≤ 10
/-- Few: not more than what is examined. -/
def FewB (n m N : Nat) (most : Int) (ln vl : Nat → Nat) : Prop := n ≤ 10 ∧ m ≤ 10 ∧ CelsB N most ln vl
end Go.Proofs.YtogmbehomilalaaGreatDoor
end

/- Few arrays have few cells. -/
section
namespace Go.Proofs.YtogmbehomilalaaGreatDoor
open Go Go.RowKit Go.Deep

/-- Few arrays have few cells: what the contracts ask of them. -/
theorem ArrF.few {w : World} {A : Option Addr} {n : Nat} {B : Option Addr} {m : Nat} {C : Option Addr} {N : Nat} {nm : Nat → ByteArray} {lo hi : Nat → Int} {an : Nat → ByteArray} {ty : Nat → Int} {ln vl : Nat → Nat} {x vk vn vd : Nat → Nat → Int} {vs : Nat → Nat → ByteArray} {most : Int}
    (h : ArrF w A n B m C N nm lo hi an ty ln vl x vk vn vd vs) (hf : FewB n m N most ln vl) : CellsAt w C N ln vl x vk vn vd vs :=
  h.cells.few fun k hk => by have := (hf.2.2.2 k hk).1; omega
end Go.Proofs.YtogmbehomilalaaGreatDoor
end

/- Drawn regions taken operation by operation, those that a guard leaves out among them. -/
section
namespace Go.Proofs.YtogmbehomilalaaGreatDoor
open Go Go.RowKit Go.Deep

end Go.Proofs.YtogmbehomilalaaGreatDoor
end

/- Arrays as data, and as they lie. -/
section
namespace Go.Proofs.YtogmbehomilalaaGreatDoor
open Go Go.RowKit Go.Deep

/-- Cells as data. -/
structure CeD where
  ln : Nat → Nat
  vl : Nat → Nat
  x : Nat → Nat → Int
  vk : Nat → Nat → Int
  vn : Nat → Nat → Int
  vd : Nat → Nat → Int
  vs : Nat → Nat → ByteArray
/-- An array as data. -/
structure ArD where
  n : Nat
  nm : Nat → ByteArray
  lo : Nat → Int
  hi : Nat → Int
  m : Nat
  an : Nat → ByteArray
  ty : Nat → Int
  N : Nat
  c : CeD
/-- The cells c lie in the slice at C. -/
def CeAt (w : World) (C : Option Addr) (N : Nat) (c : CeD) : Prop := CellsAt w C N c.ln c.vl c.x c.vk c.vn c.vd c.vs
theorem CeAt.below {w w' : World} {C : Option Addr} {N : Nat} {c : CeD} (h : CeAt w C N c) (hb : Below w.heap.size w w') : CeAt w' C N c := CellsAt.below h hb
/-- Where an array's slices lie. -/
structure ArP where
  A : Option Addr
  cap : Nat
  B : Option Addr
  bcap : Nat
  C : Option Addr
  ccap : Nat
structure ArAt (w : World) (p : ArP) (D : ArD) : Prop where
  dims : DimsAt w p.A D.n D.nm D.lo D.hi
  attrs : AttrsAt w p.B D.m D.an D.ty
  cells : CeAt w p.C D.N D.c
theorem ArAt.below {w w' : World} {p : ArP} {D : ArD} (h : ArAt w p D) (hb : Below w.heap.size w w') : ArAt w' p D := ⟨h.dims.below hb, h.attrs.below hb, h.cells.below hb⟩
/-- Cells of sizes that can be walked through. -/
def CeOk (N : Nat) (c : CeD) : Prop := ∀ k, k < N → c.ln k ≤ 1000 ∧ c.vl k ≤ 1000 ∧ ∀ j, j < c.vl k → (c.vs k j).size ≤ 9223372036854775807
structure ArOk (D : ArD) : Prop where
  n1 : D.n ≤ 1000
  m1 : D.m ≤ 1000
  N1 : D.N ≤ 1000000
  nmS : ∀ k, k < D.n → (D.nm k).size ≤ 9223372036854775807
  anS : ∀ k, k < D.m → (D.an k).size ≤ 9223372036854775807
  cS : CeOk D.N D.c
/-- What is known of an array that is a law's parameter. -/
def ArR (w : World) (p : ArP) (D : ArD) : Prop := ArrF w p.A D.n p.B D.m p.C D.N D.nm D.lo D.hi D.an D.ty D.c.ln D.c.vl D.c.x D.c.vk D.c.vn D.c.vd D.c.vs
theorem ArR.below {w w' : World} {p : ArP} {D : ArD} (h : ArR w p D) (hb : Below w.heap.size w w') : ArR w' p D := ArrF.below h hb
def FewD (D : ArD) (most : Int) : Prop := FewB D.n D.m D.N most D.c.ln D.c.vl
theorem ArR.ok {w : World} {p : ArP} {D : ArD} {most : Int} (h : ArR w p D) (hf : FewD D most) (hm : most ≤ 1000000) : ArAt w p D ∧ ArOk D := by
  have h1 := hf.1
  have h2 := hf.2.1
  have h3 := hf.2.2.1
  refine ⟨⟨h.dims, h.attrs, h.few hf⟩, by omega, by omega, by omega, h.nmS, h.anS, fun k hk => ?_⟩
  have := hf.2.2.2 k hk
  exact ⟨by omega, by omega, (h.cS k hk).2.2⟩
end Go.Proofs.YtogmbehomilalaaGreatDoor
end

/- Arrays compared. -/
section
namespace Go.Proofs.YtogmbehomilalaaGreatDoor
open Go Go.RowKit Go.Deep

end Go.Proofs.YtogmbehomilalaaGreatDoor
end

/- An array in new memory. -/
section
namespace Go.Proofs.YtogmbehomilalaaGreatDoor
open Go Go.RowKit Go.Deep

/-- Cells that lie in blocks from B on, and so do their lists. -/
def CeUp (w : World) (B : Nat) (C : Option Addr) (N : Nat) (c : CeD) : Prop :=
  0 < N → ∃ b o, C = some ⟨b, o, none⟩ ∧ B ≤ b ∧ b < w.heap.size ∧ ∀ k, k < N → ∃ P pc Q qc, w.cell? ⟨b, o + k * 2, none⟩ = some (.slice P (c.ln k) pc) ∧ w.cell? ⟨b, o + k * 2 + 1, none⟩ = some (.slice Q (c.vl k) qc) ∧ IntsAt w P (c.ln k) (c.x k) ∧ ValsAt w Q (c.vl k) (c.vk k) (c.vn k) (c.vd k) (c.vs k) ∧ c.ln k ≤ 1000 ∧ Up B P ∧ Up B Q
theorem CeUp.at {w : World} {B : Nat} {C : Option Addr} {N : Nat} {c : CeD} (h : CeUp w B C N c) : CeAt w C N c := fun hn => by
  obtain ⟨b, o, h1, _, h2, h3⟩ := h hn
  refine ⟨b, o, h1, h2, fun k hk => ?_⟩
  obtain ⟨P, pc, Q, qc, a1, a2, a3, a4, a5, _⟩ := h3 k hk
  exact ⟨P, pc, Q, qc, a1, a2, a3, a4, a5⟩
structure ArUp (w : World) (B : Nat) (p : ArP) (D : ArD) : Prop where
  dims : DimsAt w p.A D.n D.nm D.lo D.hi
  attrs : AttrsAt w p.B D.m D.an D.ty
  cells : CeUp w B p.C D.N D.c
  upA : Up B p.A
  upB : Up B p.B
theorem ArUp.at {w : World} {B : Nat} {p : ArP} {D : ArD} (h : ArUp w B p D) : ArAt w p D := ⟨h.dims, h.attrs, h.cells.at⟩

section
variable {ops : Array Oper} {Q : Exit → Act → World → Prop} {K : Act → World → Prop} {a : Act} {w : World}
end
theorem RowAt.grown {w w' : World} {A : Option Addr} {n z b : Nat} {f : Nat → Nat → Value} (h : RowAt w A n z f) (hg : w.grownBy w' (some b)) (hA : 0 < n → ∀ a, A = some a → a.block ≠ b) : RowAt w' A n z f := fun hn => by
  obtain ⟨b', o, rfl, h2, h3⟩ := h hn
  have hne := hA hn _ rfl
  have hb := hg.block b' h2 (fun e => by injection e with e; exact hne (by show b' = b; omega))
  refine ⟨b', o, rfl, Nat.lt_of_lt_of_le h2 hg.size, fun k r hk hr => ?_⟩
  rw [cell_blk hb]
  exact h3 k r hk hr
theorem Up.ne {B b n : Nat} {A : Option Addr} (h : Up B A) (hb : b < B) : 0 < n → ∀ a, A = some a → a.block ≠ b := fun _ a ha e => by
  have := (h a ha).1
  omega
/-- The first k cells of the row at b are made. -/
def CopAt (b N : Nat) (c : CeD) (k : Nat) (W : World) : Prop := ∃ g, W.rowIs b 38 (N * 2) g ∧ ∀ j, j < k → ∃ P pc Q qc, g (j * 2) = .slice P (c.ln j) pc ∧ g (j * 2 + 1) = .slice Q (c.vl j) qc ∧ IntsAt W P (c.ln j) (c.x j) ∧ ValsAt W Q (c.vl j) (c.vk j) (c.vn j) (c.vd j) (c.vs j) ∧ Up (b + 1) P ∧ Up (b + 1) Q
theorem CopAt.below {b N k : Nat} {c : CeD} {W W' : World} (h : CopAt b N c k W) (hb : Below W.heap.size W W') : CopAt b N c k W' := by
  obtain ⟨g, h1, h2⟩ := h
  refine ⟨g, h1.of_block (hb.block b h1.lt), fun j hj => ?_⟩
  obtain ⟨P, pc, Q, qc, a1, a2, a3, a4, a5⟩ := h2 j hj
  exact ⟨P, pc, Q, qc, a1, a2, a3.below hb, a4.below hb, a5⟩
theorem CopAt.next {b N k : Nat} {c : CeD} {W : World} (h : CopAt b N c k W) {P Q : Option Addr} {pc qc : Nat} (h1 : IntsAt W P (c.ln k) (c.x k)) (h2 : ValsAt W Q (c.vl k) (c.vk k) (c.vn k) (c.vd k) (c.vs k)) (u1 : Up (b + 1) P) (u2 : Up (b + 1) Q) :
    CopAt b N c (k + 1) ((W.setCell ⟨b, k * 2, none⟩ (.slice P (c.ln k) pc)).setCell ⟨b, k * 2 + 1, none⟩ (.slice Q (c.vl k) qc)) := by
  obtain ⟨g, g1, g2⟩ := h
  have gr : W.grownBy ((W.setCell ⟨b, k * 2, none⟩ (.slice P (c.ln k) pc)).setCell ⟨b, k * 2 + 1, none⟩ (.slice Q (c.vl k) qc)) (some b) := gr2 (grown_set _ _ _ _) (grown_set _ _ _ _)
  refine ⟨_, (g1.set (k * 2) _).set (k * 2 + 1) _, fun j hj => ?_⟩
  by_cases e : j = k
  · subst e
    refine ⟨P, pc, Q, qc, ?_, ?_, (h1.row.grown gr (u1.ne (Nat.lt_succ_self b))).ints, (h2.row.grown gr (u2.ne (Nat.lt_succ_self b))).vals, u1, u2⟩
    · show (if j * 2 = j * 2 + 1 then _ else if j * 2 = j * 2 then _ else _) = _
      rw [if_neg (by omega), if_pos rfl]
    · show (if j * 2 + 1 = j * 2 + 1 then _ else _) = _
      rw [if_pos rfl]
  · obtain ⟨P', pc', Q', qc', a1, a2, a3, a4, a5, a6⟩ := g2 j (by omega)
    refine ⟨P', pc', Q', qc', ?_, ?_, (a3.row.grown gr (a5.ne (Nat.lt_succ_self b))).ints, (a4.row.grown gr (a6.ne (Nat.lt_succ_self b))).vals, a5, a6⟩
    · show (if j * 2 = k * 2 + 1 then _ else if j * 2 = k * 2 then _ else g (j * 2)) = _
      rw [if_neg (by omega), if_neg (by omega)]; exact a1
    · show (if j * 2 + 1 = k * 2 + 1 then _ else if j * 2 + 1 = k * 2 then _ else g (j * 2 + 1)) = _
      rw [if_neg (by omega), if_neg (by omega)]; exact a2
theorem CeUp.grown {W W' : World} {B b N : Nat} {C : Option Addr} {c : CeD} (h : CeUp W B C N c) (hg : W.grownBy W' (some b)) (hb : b < B) : CeUp W' B C N c := fun hN => by
  obtain ⟨d, o, h1, h2, h3, h4⟩ := h hN
  have hbl := hg.block d h3 (fun e => by injection e with e; omega)
  refine ⟨d, o, h1, h2, Nat.lt_of_lt_of_le h3 hg.size, fun k hk => ?_⟩
  obtain ⟨P, pc, Q, qc, a1, a2, a3, a4, a5, a6, a7⟩ := h4 k hk
  exact ⟨P, pc, Q, qc, by rw [cell_blk hbl]; exact a1, by rw [cell_blk hbl]; exact a2, (a3.row.grown hg (a6.ne hb)).ints, (a4.row.grown hg (a7.ne hb)).vals, a5, a6, a7⟩
theorem CeUp.mono {W : World} {B B' N : Nat} {C : Option Addr} {c : CeD} (h : CeUp W B C N c) (hb : B' ≤ B) : CeUp W B' C N c := fun hN => by
  obtain ⟨d, o, h1, h2, h3, h4⟩ := h hN
  refine ⟨d, o, h1, by omega, h3, fun k hk => ?_⟩
  obtain ⟨P, pc, Q, qc, a1, a2, a3, a4, a5, a6, a7⟩ := h4 k hk
  exact ⟨P, pc, Q, qc, a1, a2, a3, a4, a5, a6.mono hb, a7.mono hb⟩
theorem CopAt.done {b N B : Nat} {c : CeD} {W : World} (h : CopAt b N c N W) (hB : B ≤ b) (ho : CeOk N c) : CeUp W B (some ⟨b, 0, none⟩) N c := fun hN => by
  obtain ⟨g, g1, g2⟩ := h
  refine ⟨b, 0, rfl, hB, g1.lt, fun k hk => ?_⟩
  obtain ⟨P, pc, Q, qc, a1, a2, a3, a4, a5, a6⟩ := g2 k hk
  refine ⟨P, pc, Q, qc, ?_, ?_, a3, a4, (ho k hk).1, a5.mono (by omega), a6.mono (by omega)⟩
  · rw [Nat.zero_add, g1.cell (by omega), a1]
  · rw [Nat.zero_add, g1.cell (by omega), a2]
end Go.Proofs.YtogmbehomilalaaGreatDoor
end

/- A list of cells that grows by append: where it lies. -/
section
namespace Go.Proofs.YtogmbehomilalaaGreatDoor
open Go Go.RowKit Go.Deep

theorem RowAt.grownO {w w' : World} {A : Option Addr} {n z : Nat} {f : Nat → Nat → Value} {row : Option Nat} (h : RowAt w A n z f) (hg : w.grownBy w' row) (hA : 0 < n → ∀ a, A = some a → row ≠ some a.block) : RowAt w' A n z f := fun hn => by
  obtain ⟨b', o, rfl, h2, h3⟩ := h hn
  have hne := hA hn _ rfl
  have hb := hg.block b' h2 (fun e => hne e.symm)
  refine ⟨b', o, rfl, Nat.lt_of_lt_of_le h2 hg.size, fun k r hk hr => ?_⟩
  rw [cell_blk hb]
  exact h3 k r hk hr
theorem RowAt.lt {w : World} {A : Option Addr} {n z : Nat} {f : Nat → Nat → Value} (h : RowAt w A n z f) (hn : 0 < n) {a : Addr} (ha : A = some a) : a.block < w.heap.size := by
  obtain ⟨b', o, rfl, h2, _⟩ := h hn
  injection ha with ha
  subst ha
  exact h2
/-- The slice v is the walk's own, from block B on, and holds n cells; their lists lie elsewhere. -/
def OwnC (S : Option Addr → Prop) (w : World) (B : Nat) (v : Value) (n : Nat) (c : CeD) : Prop :=
  ∃ xs, w.ownsRow B 38 2 v n xs ∧ ∀ k, k < n → ∃ P pc Q qc, xs[k * 2]? = some (.slice P (c.ln k) pc) ∧ xs[k * 2 + 1]? = some (.slice Q (c.vl k) qc) ∧ IntsAt w P (c.ln k) (c.x k) ∧ ValsAt w Q (c.vl k) (c.vk k) (c.vn k) (c.vd k) (c.vs k) ∧ (S P ∧ S Q) ∧
    (0 < c.ln k → ∀ a, P = some a → v.ownBlock ≠ some a.block) ∧ (0 < c.vl k → ∀ a, Q = some a → v.ownBlock ≠ some a.block)
theorem OwnC.nil (S : Option Addr → Prop) (w : World) (B : Nat) (c : CeD) : OwnC S w B (.slice none 0 0) 0 c := ⟨[], ⟨rfl, .inl ⟨rfl, rfl⟩⟩, fun k hk => absurd hk (by omega)⟩
theorem OwnC.below {S : Option Addr → Prop} {w w' : World} {B n : Nat} {v : Value} {c : CeD} (h : OwnC S w B v n c) (hb : Below w.heap.size w w') : OwnC S w' B v n c := by
  obtain ⟨xs, h1, h2⟩ := h
  refine ⟨xs, h1.kept (Below.by_ hb) ?_, fun k hk => ?_⟩
  · cases e : v.ownBlock with
    | none => exact .inl rfl
    | some g => exact .inr (by simp)
  · obtain ⟨P, pc, Q, qc, a1, a2, a3, a4, a5⟩ := h2 k hk
    exact ⟨P, pc, Q, qc, a1, a2, a3.below hb, a4.below hb, a5⟩
theorem OwnC.set {S : Option Addr → Prop} {w w' : World} {B n b : Nat} {v : Value} {c : CeD} (h : OwnC S w B v n c) (hg : w.grownBy w' (some b)) (hB : b < B) (hS : ∀ P, S P → ∀ a, P = some a → a.block ≠ b) : OwnC S w' B v n c := by
  obtain ⟨xs, h1, h2⟩ := h
  refine ⟨xs, h1.kept hg ?_, fun k hk => ?_⟩
  · cases e : v.ownBlock with
    | none => exact .inl rfl
    | some g =>
      obtain ⟨hg1, _⟩ := own_lt h1 g e
      refine .inr fun e2 => ?_
      injection e2 with e2
      omega
  · obtain ⟨P, pc, Q, qc, a1, a2, a3, a4, a5⟩ := h2 k hk
    exact ⟨P, pc, Q, qc, a1, a2, (a3.row.grown hg (fun _ => hS P a5.1.1)).ints, (a4.row.grown hg (fun _ => hS Q a5.1.2)).vals, a5⟩
theorem OwnC.block {S : Option Addr → Prop} {w : World} {B n : Nat} {v : Value} {c : CeD} (h : OwnC S w B v n c) {g : Nat} (hg : v.ownBlock = some g) : B ≤ g ∧ g < w.heap.size := by
  obtain ⟨xs, h1, _⟩ := h
  obtain ⟨a, cs, b⟩ := own_lt h1 g hg
  exact ⟨a, (Array.getElem?_eq_some_iff.1 b).1⟩
theorem OwnC.row {S : Option Addr → Prop} {w : World} {B n : Nat} {v : Value} {c : CeD} (h : OwnC S w B v n c) : ∃ A cap, v = .slice A n cap ∧ (0 < n → ∃ b, A = some ⟨b, 0, none⟩ ∧ B ≤ b ∧ b < w.heap.size ∧ ∀ k, k < n → ∃ P pc Q qc, w.cell? ⟨b, k * 2, none⟩ = some (.slice P (c.ln k) pc) ∧ w.cell? ⟨b, k * 2 + 1, none⟩ = some (.slice Q (c.vl k) qc) ∧ IntsAt w P (c.ln k) (c.x k) ∧ ValsAt w Q (c.vl k) (c.vk k) (c.vn k) (c.vd k) (c.vs k) ∧ (S P ∧ S Q)) := by
  obtain ⟨xs, ⟨hl, h1⟩, h2⟩ := h
  rcases h1 with ⟨rfl, rfl⟩ | ⟨g, cap, cur, rfl, hBg, hh, hcap, _, hs, ht⟩
  · exact ⟨none, 0, rfl, fun h => absurd h (by omega)⟩
  · refine ⟨_, _, rfl, fun hn => ⟨g, rfl, hBg, (Array.getElem?_eq_some_iff.1 hh).1, fun k hk => ?_⟩⟩
    obtain ⟨P, pc, Q, qc, a1, a2, a3, a4, a5, _⟩ := h2 k hk
    have get : ∀ j u, j < n * 2 → xs[j]? = some u → w.cell? ⟨g, j, none⟩ = some u := fun j u hj hu => by
      have h3 : cur.toList[j]? = some u := by
        rw [← List.getElem?_take_of_lt hj, ht]
        exact hu
      rw [Array.getElem?_toList] at h3
      simp [World.cell?, hh, h3]
    exact ⟨P, pc, Q, qc, get _ _ (by omega) a1, get _ _ (by omega) a2, a3, a4, a5⟩
theorem OwnC.at {S : Option Addr → Prop} {w : World} {B n : Nat} {v : Value} {c : CeD} (h : OwnC S w B v n c) (ho : CeOk n c) : ∃ A cap, v = .slice A n cap ∧ CeAt w A n c := by
  obtain ⟨A, cap, h1, h2⟩ := h.row
  refine ⟨A, cap, h1, fun hn => ?_⟩
  obtain ⟨b, h3, h4, h5, h6⟩ := h2 hn
  refine ⟨b, 0, h3, h5, fun k hk => ?_⟩
  obtain ⟨P, pc, Q, qc, a1, a2, a3, a4, a5⟩ := h6 k hk
  exact ⟨P, pc, Q, qc, by rw [Nat.zero_add]; exact a1, by rw [Nat.zero_add]; exact a2, a3, a4, (ho k hk).1⟩
theorem OwnC.up {w : World} {B B' n : Nat} {v : Value} {c : CeD} (h : OwnC (Up B') w B v n c) (hB : B' ≤ B) (ho : CeOk n c) : ∃ A cap, v = .slice A n cap ∧ CeUp w B' A n c := by
  obtain ⟨A, cap, h1, h2⟩ := h.row
  refine ⟨A, cap, h1, fun hn => ?_⟩
  obtain ⟨b, h3, h4, h5, h6⟩ := h2 hn
  refine ⟨b, 0, h3, by omega, h5, fun k hk => ?_⟩
  obtain ⟨P, pc, Q, qc, a1, a2, a3, a4, a5⟩ := h6 k hk
  exact ⟨P, pc, Q, qc, by rw [Nat.zero_add]; exact a1, by rw [Nat.zero_add]; exact a2, a3, a4, (ho k hk).1, a5⟩
end Go.Proofs.YtogmbehomilalaaGreatDoor
end

/- A whole slice appended, nil or not. -/
section
namespace Go.Proofs.YtogmbehomilalaaGreatDoor
open Go Go.RowKit Go.Deep Go.Shelf

theorem run_app_none {P : Program} {w : World} (base : Nat) (t ty e : TypeId) (i : TypeInfo) (size : Nat) (ht : P.underlying t = some (.slice e)) (hi : P.info? e = some i)
    (v : Value) (n c : Nat) (xs : List Value) (hown : w.ownsRow base e size v n xs) :
    (Builtin.append_ #[t, t] ty #[v, .slice none 0 c]).run P w = .ok v w := by
  rcases hown.2 with ⟨rfl, rfl⟩ | ⟨g, cap, cur, rfl, _, _, hnc, _⟩
  · simp [Builtin.append_, run_underlying ht, sizeOf, typeInfo, hi, Builtin.lenOf, Builtin.firstCells]
  · simp [Builtin.append_, run_underlying ht, sizeOf, typeInfo, hi, Builtin.lenOf, Builtin.firstCells, hnc, storeCells]
theorem wpList_app_none {P : Program} {w : World} {ops : Array Oper} {rest : List Oper} {o : Oper} {a : Act} {Q : Exit → Act → World → Prop} (hgd : o.guard = none) (s x : Operand) (t : TypeId)
    (ho : o.op = .call { callee := .builtin .append, args := #[s, x], argTypes := #[t, t] })
    (base : Nat) (e : TypeId) (i : TypeInfo) (size : Nat) (ht : P.underlying t = some (.slice e)) (hi : P.info? e = some i)
    (v : Value) (n c : Nat) (xs : List Value) (hs : a.eval s = v) (hown : w.ownsRow base e size v n xs) (hx : a.eval x = .slice none 0 c)
    (h : wpList P ops Q rest (a.put o.dst v) w) : wpList P ops Q (o :: rest) a w := by
  refine wpList_plain hgd fun K hK => ?_
  have hrun := run_app_none (P := P) (w := w) base t o.type e i size ht hi v n c xs hown
  unfold Oper.wp
  simp [execOp, ho, resolve, invoke, builtin, hs, hx, hrun, Result.andThen]
  exact hK _ _ h
theorem rowL_nil (f : Nat → Nat → Value) (z : Nat) : rowL f z 0 = [] := by simp [rowL]
end Go.Proofs.YtogmbehomilalaaGreatDoor
end

/- A whole slice of cells appended, nil or not. -/
section
namespace Go.Proofs.YtogmbehomilalaaGreatDoor
open Go Go.RowKit Go.Deep Go.Shelf

/-- append(v, x...), x a slice whose cells are known as a row, and where the list lies. -/
theorem wpList_app_rowA {P : Program} {w : World} {ops : Array Oper} {rest : List Oper} {o : Oper} {a : Act} {Q : Exit → Act → World → Prop} (hgd : o.guard = none) (s x : Operand) (t : TypeId)
    (ho : o.op = .call { callee := .builtin .append, args := #[s, x], argTypes := #[t, t] })
    (base : Nat) (e : TypeId) (i : TypeInfo) (z : Value) (size bytes : Nat) (ht : P.underlying t = some (.slice e)) (hi : P.info? e = some i) (hz : i.zero = some z)
    (hsize : i.size = size) (hby : i.bytes = bytes) (hzs : z.cells.size = size) (hsz : 0 < size)
    (v : Value) (n : Nat) (xs : List Value) (hs : a.eval s = v) (hown : w.ownsRow base e size v n xs)
    (A : Option Addr) (m c : Nat) (f : Nat → Nat → Value) (hx : a.eval x = .slice A m c) (hrow : RowAt w A m size f) (h1 : ∀ k r, (f k r).oneCell' = true)
    (h63 : n + m ≤ maxLen) (hbytes : (n + m) * bytes ≤ 140737488355328) (hbase : base ≤ w.heap.size)
    (h : ∀ v' w', w'.ownsRow base e size v' (n + m) (xs ++ rowL f size m) → w.grownBy w' v.ownBlock → (v'.ownBlock = v.ownBlock ∨ v'.ownBlock = some w.heap.size) → wpList P ops Q rest (a.put o.dst v') w') :
    wpList P ops Q (o :: rest) a w := by
  cases A with
  | none =>
    have hm : m = 0 := by
      rcases Nat.eq_zero_or_pos m with h0 | h0
      · exact h0
      · obtain ⟨b, o, h1, _⟩ := hrow h0
        cases h1
    subst hm
    refine wpList_app_none hgd s x t ho base e i size ht hi v n c xs hs hown hx (h v w ?_ ⟨rfl, rfl, rfl, Nat.le_refl _, fun _ _ _ => rfl⟩ (.inl rfl))
    rw [rowL_nil, List.append_nil]
    exact hown
  | some ad =>
    exact wpList_append_own_at w hgd s x t ho base e i z size bytes ht hi hz hsize hby hzs hsz v n xs hs hown ad m c (rowL f size m) hx (rowL_len _ _ _) (hrow.news hsz) (rowL_one h1) h63 hbytes hbase fun v' w' g1 g2 _ g4 => h v' w' g1 g2 g4
/-- Cells by a list of their numbers. -/
def CeD.of (T : CeD) (L : List Nat) : CeD := ⟨fun k => T.ln (L[k]!), fun k => T.vl (L[k]!), fun k => T.x (L[k]!), fun k => T.vk (L[k]!), fun k => T.vn (L[k]!), fun k => T.vd (L[k]!), fun k => T.vs (L[k]!)⟩
theorem getL_left {L M : List Nat} {k : Nat} (h : k < L.length) : (L ++ M)[k]! = L[k]! := by
  rw [List.getElem!_eq_getElem?_getD, List.getElem!_eq_getElem?_getD, List.getElem?_append_left h]
theorem getL_right {L M : List Nat} {k : Nat} (h : L.length ≤ k) : (L ++ M)[k]! = M[k - L.length]! := by
  rw [List.getElem!_eq_getElem?_getD, List.getElem!_eq_getElem?_getD, List.getElem?_append_right h]
end Go.Proofs.YtogmbehomilalaaGreatDoor
end
