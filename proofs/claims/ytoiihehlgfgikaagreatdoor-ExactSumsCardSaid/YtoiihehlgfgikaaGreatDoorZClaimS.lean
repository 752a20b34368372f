/- ExactSums: the sum of whatever list of quotients is the document's own: the law returns true. Its row lists package-level variables of Go's library, tied to the program's text by the card. -/
import Derived.Test.YtoiihehlgfgikaaGreatDoorZFloor
import Derived.Test.YtoiihehlgfgikaaGreatDoorZRatV
import Derived.Test.YtoiihehlgfgikaaGreatDoorZM9
import Derived.Test.YtoiihehlgfgikaaGreatDoorZAdd9
import Derived.Test.YtoiihehlgfgikaaGreatDoorZMakes
import Derived.Test.YtoiihehlgfgikaaGreatDoorZSumG
import Derived.Test.YtoiihehlgfgikaaGreatDoorZRing
import Derived.Deep.AppendLies
import Derived.Deep.RegionHeld3
import Derived.Test.YtoiihehlgfgikaaGreatDoorTie
import Derived.Test.YtoiihehlgfgikaaGreatDoorCards
import Derived.Test.YtoiihehlgfgikaaGreatDoorZRow
import Derived.SevenTiedAt

/- How many binary digits a number of any size has: what the calls return. -/
section
namespace Go.Proofs.YtoiihehlgfgikaaGreatDoor
open Go.RowKit Go.Deep

theorem below_drewN' {B : Nat} {a w : World} (h : Below B a w) (n : Nat) : Below B a (w.drewN n) := ⟨h.os, h.tape, h.output, h.size, h.block⟩
theorem halves_top (x n : Nat) (hx : x < W64 ^ (n + 1)) (h0 : dig x n ≠ 0) : halves x = 64 * n + halves (dig x n) := by
  have hW : W64 ^ n = 2 ^ (64 * n) := by rw [Nat.pow_mul]; rfl
  have ht : dig x n = x / W64 ^ n := by
    unfold dig
    rw [Nat.mod_eq_of_lt]
    rw [Nat.div_lt_iff_lt_mul (W64_pow_pos n), Nat.mul_comm, ← Nat.pow_succ]
    exact hx
  have h1 : ∀ j, x < 2 ^ (64 * n + j) ↔ dig x n < 2 ^ j := fun j => by
    rw [ht, Nat.div_lt_iff_lt_mul (W64_pow_pos n), hW, Nat.pow_add, Nat.mul_comm]
  have h2 : halves x ≤ 64 * n + halves (dig x n) := by
    rw [halves_le, h1, ← halves_le]
    exact Nat.le_refl _
  have h3 : 0 < halves (dig x n) := by rw [halves_step _ h0]; omega
  have h4 : ¬ halves x ≤ 64 * n + (halves (dig x n) - 1) := by
    rw [halves_le, h1, ← halves_le]; omega
  omega

set_option maxHeartbeats 1000000 in
theorem n_length (w : World) (v : Value) (x : Nat) (h : NatAt w v x) (hn : nw x ≤ 100000000) :
    Calls Tryz.prog 74 #[v] w fun e w' => e = .returned (.int .i64 (halves x : Int)) ∧ ∃ n, w' = w.drewN n := by
  obtain ⟨A, c, rfl, h1, h2, h3⟩ := h
  by_cases h0 : x = 0
  · have HL : Hid ((halves x : Int) = 0) := by show _ = _; rw [h0, halves_zero]; rfl
    rw [show nw x = 0 by rw [h0, nw_zero]]
    clear h0 h3 h1 hn
    go_enter Tryz.func74, Tryz.ntmps74
    go_wp2
    go_ret
    exact ⟨by rw [HL.out]; rfl, 0, rfl⟩
  · have hp : 0 < nw x := (nw_pos x).2 (by omega)
    have hd := dig_top x (by omega)
    have hlt := dig_lt x (nw x - 1)
    have hx := lt_nw x
    obtain ⟨k, hk⟩ : ∃ k, nw x = k + 1 := ⟨nw x - 1, by omega⟩
    rw [hk] at hx hd h1 h3 hlt ⊢
    simp only [Nat.add_sub_cancel] at hd hlt
    have HT := Lib.hid (halves_top x k hx hd)
    have hle : halves (dig x k) ≤ 64 := by rw [halves_le]; unfold W64 at hlt; omega
    obtain ⟨b, o, rfl, hc⟩ := h3.at_ (k := k) (by omega)
    have HLn := Lib.hid (fun W => Tryz.bits_Len64 (dig x k) W (by omega) (by unfold W64 at hlt; omega))
    have HLe : Hid ((Lib.bitLen (dig x k : Int).toNat : Int) = (halves (dig x k) : Int)) := by
      show _ = _
      rw [Int.toNat_natCast, halves_bitLen _ hlt]
    generalize dig x k = u at *
    generalize Lib.bitLen (u : Int).toNat = bl at *
    generalize halves u = hu at *
    have hbl : (bl : Int) = (hu : Int) := HLe.out
    have hk9 : k < 100000000 := by omega
    clear h3 hx hd hlt h1 h2
    go_enter Tryz.func74, Tryz.ntmps74
    go_wp2_with fail
    refine (HLn.out w).mono ?_
    rintro e w' ⟨rfl, rfl⟩
    clear HLn
    go_wp2
    go_ret
    exact ⟨ret_i (by rw [HT.out]; push_cast; omega), 0, rfl⟩

set_option maxHeartbeats 1000000 in
theorem c_BitsG (w : World) (v : Value) (neg : Bool) (n d : Nat) (h : RatAt w v neg n d) (hn1 : nw n ≤ 100000000) (hd1 : nw d ≤ 100000000) :
    Calls Tryz.prog 31 #[v] w fun e w' => e = .returned (.tuple #[.int .i64 (halves n : Int), .int .i64 (halves d : Int)]) ∧ Below w.heap.size w w' := by
  have HV := Lib.hid (c_valid w v neg n d h)
  obtain ⟨b, nv, dv, rfl, hlt, _, h1, h2, h3, hn, hd⟩ := h
  have HN := Lib.hid (fun k => n_length (w.drewN k) nv n (hn.drewN k) hn1)
  have HD := Lib.hid (fun k => n_length (w.drewN k) dv d (hd.drewN k) hd1)
  clear hn hd
  go_enter Tryz.func31, Tryz.ntmps31
  go_wp2_with fail
  refine HV.out.mono ?_
  rintro e w' ⟨rfl, rfl⟩
  go_wp2_with fail
  go_quiet ((first | (go_at_call_of 74 nv; exact (HN.out _).mono (fun e w9 h9 => ⟨h9.1, by obtain ⟨n9, h8⟩ := h9.2; exact ⟨_, h8.trans (World.drewN_drewN _ _ _)⟩⟩)) | (go_at_call_of 74 dv; exact (HD.out _).mono (fun e w9 h9 => ⟨h9.1, by obtain ⟨n9, h8⟩ := h9.2; exact ⟨_, h8.trans (World.drewN_drewN _ _ _)⟩⟩))))
  go_wp2
  go_ret2
  exact ⟨rfl, below_drewN' (Below.refl _ _) _⟩
theorem c_BitsQ (w : World) (x : Value) (q : Rat) (hx : RatV w x q) (k : RatW q 90000) :
    ∀ W, Below w.heap.size w W → Calls Tryz.prog 31 #[x] W fun e w' => e = .returned (.tuple #[.int .i64 (halves q.num.natAbs : Int), .int .i64 (halves q.den : Int)]) ∧ Below W.heap.size W w' :=
  fun W hW => c_BitsG W x _ _ _ (hx.below hW) (Nat.le_trans k.1 (by omega)) (Nat.le_trans k.2 (by omega))
end Go.Proofs.YtoiihehlgfgikaaGreatDoor
end

/- Two lists of the call's own that grow side by side: of the program's numbers and of the reference's. -/
section
namespace Go.Proofs.YtoiihehlgfgikaaGreatDoor
open Go Go.RowKit Go.Deep

/-- A cell of a number of the reference. -/
def IsRc (u : Value) : Prop := (∃ b, u = .bool b) ∨ ∃ A n c, u = .slice A n c
/-- Three such cells. -/
def Rc3 (l : List Value) : Prop := ∃ b A n c A' n' c', l = [.bool b, .slice A n c, .slice A' n' c']
/-- A list of the reference's numbers in memory of the call's own. -/
def Refs (B : Nat) (w : World) (v : Value) (k : Nat) (rs : Nat → List Value) (qs : Nat → Rat) : Prop :=
  w.ownsRow B 28 3 v k ((List.range k).flatMap rs) ∧ AllIn w v IsRc ∧ (∀ j, Rc3 (rs j)) ∧ (∀ j, j < k → RefV w (.agg (rs j).toArray) (qs j)) ∧ (∀ j, j < k → RefW (qs j) 3)
theorem Refs.sl {B : Nat} {w : World} {v : Value} {k : Nat} {rs : Nat → List Value} {qs : Nat → Rat} (h : Refs B w v k rs qs) : ∃ A c, v = .slice A k c := by
  rcases h.1.2 with ⟨rfl, rfl⟩ | ⟨g, cap, cur, rfl, _⟩
  · exact ⟨none, 0, rfl⟩
  · exact ⟨_, _, rfl⟩
theorem Refs.below {B : Nat} {w w' : World} {v : Value} {k : Nat} {rs : Nat → List Value} {qs : Nat → Rat} (h : Refs B w v k rs qs) (hb : Below w.heap.size w w') : Refs B w' v k rs qs :=
  ⟨ownsRow_below h.1 hb, h.2.1.below h.1 hb, h.2.2.1, fun j hj => (h.2.2.2.1 j hj).below hb, h.2.2.2.2⟩
theorem own_ne {w : World} {B B' size size' n n' : Nat} {e e' : TypeId} {v v' : Value} {xs xs' : List Value} (h : w.ownsRow B e size v n xs) (h' : w.ownsRow B' e' size' v' n' xs') (he : e ≠ e') : v.ownBlock = none ∨ v.ownBlock ≠ v'.ownBlock := by
  rcases h.2 with ⟨rfl, _⟩ | ⟨g, cap, cur, rfl, _, hg, _⟩
  · exact .inl rfl
  · refine .inr fun e1 => ?_
    rcases h'.2 with ⟨rfl, _⟩ | ⟨g', cap', cur', rfl, _, hg', _⟩
    · simp [Value.ownBlock] at e1
    · have e2 : g = g' := by simpa [Value.ownBlock] using e1
      subst e2
      rw [hg] at hg'
      simp only [Option.some.injEq, Obj.cells.injEq] at hg'
      exact he hg'.2.1
theorem row_far {w : World} {B size n b : Nat} {e e' : TypeId} {v : Value} {xs : List Value} {cs : Array Value} {fr : Nat × Nat} (h : w.ownsRow B e size v n xs) (hb : w.heap[b]? = some (.cells cs e' fr)) (he : e ≠ e') : some b ≠ v.ownBlock := by
  rcases h.2 with ⟨rfl, _⟩ | ⟨g, cap, cur, rfl, _, hg, _⟩
  · simp [Value.ownBlock]
  · intro e1
    have e2 : b = g := by simpa [Value.ownBlock] using e1
    subst e2
    rw [hb] at hg
    simp only [Option.some.injEq, Obj.cells.injEq] at hg
    exact he hg.2.1.symm
theorem AllIn.kept {w w' : World} {v s : Value} {Pr : Value → Prop} {B size n : Nat} {e : TypeId} {xs : List Value} (h : AllIn w v Pr) (ho : w.ownsRow B e size v n xs) (hg : w.grownBy w' s.ownBlock) (hne : v.ownBlock = none ∨ v.ownBlock ≠ s.ownBlock) : AllIn w' v Pr := by
  intro g hg1 o u hu
  have hlt := (ho.lt g hg1).2
  have hn : some g ≠ s.ownBlock := by
    rcases hne with h9 | h9
    · rw [h9] at hg1; cases hg1
    · rw [hg1] at h9; exact h9
  exact h g hg1 o u (by rw [← hg.cell_far ⟨g, o, none⟩ hlt hn]; exact hu)
theorem n9_far {w w' : World} {v s : Value} {x : Nat} {Pr : Value → Prop} (h : N9At w v x) (hs : AllIn w s Pr) (hp : ∀ y, ¬ Pr (U9 y)) (hg : w.grownBy w' s.ownBlock) : N9At w' v x := by
  obtain ⟨A, c, e, h1, h2, h3⟩ := h
  refine ⟨A, c, e, h1, h2, fun hn => ?_⟩
  obtain ⟨b, o, e1, hb, hc⟩ := h3 hn
  have h0 := hc 0 hn
  exact ⟨b, o, e1, Nat.lt_of_lt_of_le hb hg.size, fun k hk => hg.cell (hc k hk) (fun e => hp _ (hs b e.symm _ _ h0))⟩
theorem RefV.far {w w' : World} {v s : Value} {q : Rat} {Pr : Value → Prop} (h : RefV w v q) (hs : AllIn w s Pr) (hp : ∀ y, ¬ Pr (U9 y)) (hg : w.grownBy w' s.ownBlock) : RefV w' v q := by
  obtain ⟨u, v, e, h1, h2⟩ := h
  exact ⟨u, v, e, n9_far h1 hs hp hg, n9_far h2 hs hp hg⟩
theorem ptr_u9 (y : Nat) : ¬ IsPtr (U9 y) := by rintro ⟨a, ha⟩; cases ha
theorem rc_u9 (y : Nat) : ¬ IsRc (U9 y) := by
  rintro (⟨b, hb⟩ | ⟨A, n, c, h⟩)
  · cases hb
  · cases h
theorem ratV_rcs {W W' : World} {v s : Value} {q : Rat} (h : RatV W v q) (hs : AllIn W s IsRc) (hc : W.grownBy W' s.ownBlock) : RatV W' v q := by
  have key : ∀ b o u, W.cell? ⟨b, o, none⟩ = some u → ¬ IsRc u → ∀ o' u', W.cell? ⟨b, o', none⟩ = some u' → W'.cell? ⟨b, o', none⟩ = some u' := by
    intro b o u hu hn o' u' hu'
    exact hc.cell hu' (fun e => hn (hs b e.symm o u hu))
  obtain ⟨b, nv, dv, e, hlt, c0, c1, c2, c3, hn, hd⟩ := h
  have hb := key b 0 _ c0 (by
    rintro (⟨b, hb⟩ | ⟨A, n, c, h⟩)
    · cases hb
    · cases h)
  have nat : ∀ v x, NatAt W v x → NatAt W' v x := by
    rintro v x ⟨A, c, e, q1, q2, q3⟩
    refine ⟨A, c, e, q1, q2, fun hn => ?_⟩
    obtain ⟨b, o, e1, e2, e3⟩ := q3 hn
    have h0 := e3 0 hn
    exact ⟨b, o, e1, Nat.lt_of_lt_of_le e2 hc.size, fun k hk => key b (o + 0) _ h0 (by
      rintro (⟨b, hb⟩ | ⟨A, n, c, h⟩)
      · cases hb
      · cases h) _ _ (e3 k hk)⟩
  exact ⟨b, nv, dv, e, Nat.lt_of_lt_of_le hlt hc.size, hb _ _ c0, hb _ _ c1, hb _ _ c2, hb _ _ c3, nat _ _ hn, nat _ _ hd⟩
theorem refW3 {q : Rat} (k : RatW q 1) : RefW q 3 := by
  have h1 : q.num.natAbs < W64 := (nw_le_one _).1 k.1
  have h2 : q.den < W64 := (nw_le_one _).1 k.2
  exact ⟨(nw_le9 _ _).2 (by unfold B9; unfold W64 at h1; omega), (nw_le9 _ _).2 (by unfold B9; unfold W64 at h2; omega)⟩
/-- Such a list, as the reference's sum reads it. -/
theorem Refs.reads {B : Nat} {w : World} {A : Option Addr} {c k : Nat} {rs : Nat → List Value} {qs : Nat → Rat} (h : Refs B w (.slice A k c) k rs qs) :
    ∃ (sg : Nat → Bool) (us vs : Nat → Value), RefsIn w A k sg us vs ∧ ∀ j, j < k → RefV w (.agg #[.bool (sg j), us j, vs j]) (qs j) := by
  have hch : ∀ j, ∃ (b : Bool) (u v : Value), rs j = [.bool b, u, v] := fun j => by
    obtain ⟨b, A, n, c, A', n', c', e⟩ := h.2.2.1 j
    exact ⟨b, _, _, e⟩
  refine ⟨fun j => Classical.choose (hch j), fun j => Classical.choose (Classical.choose_spec (hch j)), fun j => Classical.choose (Classical.choose_spec (Classical.choose_spec (hch j))), ?_, ?_⟩
  · intro j hj
    have he := Classical.choose_spec (Classical.choose_spec (Classical.choose_spec (hch j)))
    rcases h.1.2 with ⟨e1, e2⟩ | ⟨g, cap, cur, e1, hB, hg, _⟩
    · omega
    · obtain rfl : A = some ⟨g, 0, none⟩ := by simpa using (Value.slice.inj e1).1
      have hcs := h.1.cells (g := g) rfl
      have hlen : ∀ m, ((List.range m).flatMap rs).length = m * 3 := fun m => by
        induction m with
        | zero => rfl
        | succ m ih =>
          obtain ⟨b, u, v, e⟩ := hch m
          rw [List.range_succ, List.flatMap_append, List.flatMap_singleton, List.length_append, ih, e]
          simp; omega
      have hget : ∀ m, j < m → ∀ i, i < 3 → ((List.range m).flatMap rs)[j * 3 + i]? = (rs j)[i]? := fun m => by
        induction m with
        | zero => intro h9; omega
        | succ m ih =>
          intro hm i hi
          rw [List.range_succ, List.flatMap_append, List.flatMap_singleton]
          by_cases e : j = m
          · subst e
            rw [List.getElem?_append_right (by rw [hlen]; omega), hlen]
            congr 1; omega
          · rw [List.getElem?_append_left (by rw [hlen]; omega)]
            exact ih (by omega) i hi
      have hc : ∀ i u, i < 3 → (rs j)[i]? = some u → w.cell? ⟨g, j * 3 + i, none⟩ = some u := fun i u hi hu => by
        have h9 := hcs (j * 3 + i) u (by rw [hget k hj i hi]; exact hu)
        rw [Addr.add_lit, Nat.zero_add] at h9
        exact h9
      refine ⟨g, 0, rfl, (h.1.lt g rfl).2, ?_, ?_, ?_⟩
      · have h9 := hc 0 _ (by omega) (by rw [he]; rfl)
        rw [Nat.zero_add]; exact h9
      · have h9 := hc 1 _ (by omega) (by rw [he]; rfl)
        rw [Nat.zero_add]; exact h9
      · have h9 := hc 2 _ (by omega) (by rw [he]; rfl)
        rw [Nat.zero_add]; exact h9
  · intro j hj
    have he := Classical.choose_spec (Classical.choose_spec (Classical.choose_spec (hch j)))
    have h9 := h.2.2.2.1 j hj
    rw [he] at h9
    exact h9
theorem info_refs : (Tryz.prog.info? 28).map (fun i => (i.zero, i.size, i.bytes)) = some (some (.agg #[.bool false, .slice none 0 0, .slice none 0 0]), 3, 56) := by kernel_rfl
theorem ty_ne : 22 ≠ 28 := by decide

/-- A pointer to a number more, at a step of a region whose order is open. -/
theorem step_app_x {w : World} {ops : Array Oper} {o : Oper} {a : Act} {K : Act → World → Prop} {Q : Exit → Act → World → Prop} {E : Prop} (hgd : o.guard = none) (s x : Operand)
    (ho : o.op = .call { callee := .builtin .append, args := #[s, x], argTypes := #[35, 35] })
    (B : Nat) (v : Value) (j : Nat) (xs : Nat → Value) (qs : Nat → Rat) (u : Value) (q : Rat) (g : Nat) (hs : a.eval s = v) (hx : a.eval x = .slice (some ⟨g, 0, none⟩) 1 1)
    (H : Nums B w v j xs qs) (hg : w.heap[g]? = some (.cells #[u] 22 (0, 0))) (hu : IsPtr u) (hq : RatV w u q) (hw : RatW q 2) (hj : j < 1000000) (hB : B ≤ w.heap.size)
    (h : ∀ v' w', Nums B w' v' (j + 1) (ext xs j u) (ext qs j q) → w.grownBy w' v.ownBlock → AllIn w v IsPtr → K (a.put o.dst v') w') :
    if Region.wanted o (yielded ops a.tmps) = true then Oper.wp Tryz.prog o a w K Q else E := by
  have hwt : Region.wanted o (yielded ops a.tmps) = true := by simp [Region.wanted, hgd]
  rw [if_pos hwt]
  obtain ⟨h1, h2, h3, h4, h5⟩ := H
  obtain ⟨i0, hi, hii⟩ : ∃ i, Tryz.prog.info? 22 = some i ∧ (i.zero, i.size, i.bytes) = (some (.pointer none), 1, 8) := by
    have := info_ptr
    rcases hc : Tryz.prog.info? 22 with _ | i
    · rw [hc] at this; cases this
    · rw [hc] at this; exact ⟨i, rfl, by simpa using this⟩
  simp only [Prod.mk.injEq] at hii
  have hone : ∀ y ∈ [u], y.oneCell' = true := fun y hy => by
    obtain ⟨p, rfl⟩ := hu
    have h9 : y = .pointer p := by simpa using hy
    subst h9
    rfl
  have hz : ∀ y ∈ (Value.pointer none).cells, IsPtr y := fun y hy => ⟨none, by simpa [Value.cells] using hy⟩
  obtain ⟨v', w', hr, g1, g2, g3⟩ := run_append_all (P := Tryz.prog) w B 35 o.type 22 i0 (.pointer none) 1 8 Tryz.underlying35 hi hii.1 hii.2.1 hii.2.2 rfl Nat.zero_lt_one v j _ h1 ⟨g, 0, none⟩ 1 1 [u] rfl
    (World.news_of_block hg) hone (by unfold maxLen; omega) (by omega) hB IsPtr hz (fun y hy => (List.mem_singleton.1 hy) ▸ hu) h2
  unfold Oper.wp execOp
  simp only [ho, resolve, invoke, builtin, Sem.run_bind, Sem.run_pure, Result.andThen_ok, List.map_toArray, List.map_cons, List.map_nil, hs, hx, hr]
  refine h v' w' ⟨?_, g3, fun i => ?_, fun i hi => ?_, fun i hi => ?_⟩ g2 h2
  · rw [ext_map]; exact g1
  · by_cases e : i = j
    · subst e; rw [ext_same]; exact hu
    · rw [ext_ne _ _ _ _ e]; exact h3 i
  · by_cases e : i = j
    · subst e; rw [ext_same, ext_same]; exact ratV_ptrs hq h2 g2
    · rw [ext_ne _ _ _ _ e, ext_ne _ _ _ _ e]; exact ratV_ptrs (h4 i (by omega)) h2 g2
  · by_cases e : i = j
    · subst e; rw [ext_same]; exact hw
    · rw [ext_ne _ _ _ _ e]; exact h5 i (by omega)
theorem ext_flat (f : Nat → List Value) (k : Nat) (x : List Value) : (List.range (k + 1)).flatMap (ext f k x) = (List.range k).flatMap f ++ x := by
  rw [List.range_succ, List.flatMap_append, List.flatMap_singleton, ext_same]
  congr 1
  rw [List.flatMap_def, List.flatMap_def]
  exact congrArg List.flatten (List.map_congr_left fun j hj => ext_ne f k x j (by have := List.mem_range.1 hj; omega))

/-- A number of the reference more. -/
theorem step_app_r {w : World} {ops : Array Oper} {o : Oper} {a : Act} {K : Act → World → Prop} {Q : Exit → Act → World → Prop} {E : Prop} (hgd : o.guard = none) (s x : Operand)
    (ho : o.op = .call { callee := .builtin .append, args := #[s, x], argTypes := #[36, 36] })
    (B : Nat) (v : Value) (j : Nat) (rs : Nat → List Value) (qs : Nat → Rat) (l : List Value) (q : Rat) (g : Nat) (hs : a.eval s = v) (hx : a.eval x = .slice (some ⟨g, 0, none⟩) 1 1)
    (H : Refs B w v j rs qs) (hg : w.heap[g]? = some (.cells l.toArray 28 (0, 0))) (hl : Rc3 l) (hq : RefV w (.agg l.toArray) q) (hw : RefW q 3) (hj : j < 1000000) (hB : B ≤ w.heap.size)
    (h : ∀ v' w', Refs B w' v' (j + 1) (ext rs j l) (ext qs j q) → w.grownBy w' v.ownBlock → AllIn w v IsRc → K (a.put o.dst v') w') :
    if Region.wanted o (yielded ops a.tmps) = true then Oper.wp Tryz.prog o a w K Q else E := by
  have hwt : Region.wanted o (yielded ops a.tmps) = true := by simp [Region.wanted, hgd]
  rw [if_pos hwt]
  obtain ⟨h1, h2, h3, h4, h5⟩ := H
  obtain ⟨i0, hi, hii⟩ : ∃ i, Tryz.prog.info? 28 = some i ∧ (i.zero, i.size, i.bytes) = (some (.agg #[.bool false, .slice none 0 0, .slice none 0 0]), 3, 56) := by
    have := info_refs
    rcases hc : Tryz.prog.info? 28 with _ | i
    · rw [hc] at this; cases this
    · rw [hc] at this; exact ⟨i, rfl, by simpa using this⟩
  simp only [Prod.mk.injEq] at hii
  have hl3 : l.length = 3 := by obtain ⟨b, A, n, c, A', n', c', rfl⟩ := hl; rfl
  have hone : ∀ y ∈ l, IsRc y ∧ y.oneCell' = true := by
    obtain ⟨b, A, n, c, A', n', c', rfl⟩ := hl
    intro y hy
    simp only [List.mem_cons, List.not_mem_nil, or_false] at hy
    rcases hy with rfl | rfl | rfl
    · exact ⟨.inl ⟨b, rfl⟩, rfl⟩
    · exact ⟨.inr ⟨_, _, _, rfl⟩, rfl⟩
    · exact ⟨.inr ⟨_, _, _, rfl⟩, rfl⟩
  obtain ⟨v', w', hr, g1, g2, g3⟩ := run_append_all (P := Tryz.prog) w B 36 o.type 28 i0 (.agg #[.bool false, .slice none 0 0, .slice none 0 0]) 3 56 Tryz.underlying36 hi hii.1 hii.2.1 hii.2.2 rfl (by omega) v j _ h1 ⟨g, 0, none⟩ 1 1 l (by rw [hl3])
    (fun i y hy => World.news_of_block hg i y (by simpa using hy)) (fun y hy => (hone y hy).2) (by unfold maxLen; omega) (by omega) hB IsRc (fun y hy => by
      have h9 : y ∈ ([.bool false, .slice none 0 0, .slice none 0 0] : List Value) := by simpa [Value.cells] using hy
      simp only [List.mem_cons, List.not_mem_nil, or_false] at h9
      rcases h9 with rfl | rfl | rfl
      · exact .inl ⟨_, rfl⟩
      · exact .inr ⟨_, _, _, rfl⟩
      · exact .inr ⟨_, _, _, rfl⟩) (fun y hy => (hone y hy).1) h2
  unfold Oper.wp execOp
  simp only [ho, resolve, invoke, builtin, Sem.run_bind, Sem.run_pure, Result.andThen_ok, List.map_toArray, List.map_cons, List.map_nil, hs, hx, hr]
  refine h v' w' ⟨?_, g3, fun i => ?_, fun i hi => ?_, fun i hi => ?_⟩ g2 h2
  · rw [ext_flat]; exact g1
  · by_cases e : i = j
    · subst e; rw [ext_same]; exact hl
    · rw [ext_ne _ _ _ _ e]; exact h3 i
  · by_cases e : i = j
    · subst e; rw [ext_same, ext_same]; exact hq.far h2 rc_u9 g2
    · rw [ext_ne _ _ _ _ e, ext_ne _ _ _ _ e]; exact (h4 i (by omega)).far h2 rc_u9 g2
  · by_cases e : i = j
    · subst e; rw [ext_same]; exact hw
    · rw [ext_ne _ _ _ _ e]; exact h5 i (by omega)
/-- The other list, while the one of pointers grows. -/
theorem Refs.past_x {B B' : Nat} {w w' : World} {v s : Value} {k j : Nat} {rs : Nat → List Value} {qs qs' : Nat → Rat} {xs : Nat → Value} (h : Refs B w v k rs qs) (hs : Nums B' w s j xs qs') (hg : w.grownBy w' s.ownBlock) : Refs B w' v k rs qs := by
  have hne := own_ne h.1 hs.1 (Ne.symm ty_ne)
  exact ⟨h.1.kept hg hne, h.2.1.kept h.1 hg hne, h.2.2.1, fun i hi => (h.2.2.2.1 i hi).far hs.2.1 ptr_u9 hg, h.2.2.2.2⟩
theorem Nums.past_r {B B' : Nat} {w w' : World} {v s : Value} {k j : Nat} {rs : Nat → List Value} {qs qs' : Nat → Rat} {xs : Nat → Value} (h : Nums B w v k xs qs) (hs : Refs B' w s j rs qs') (hg : w.grownBy w' s.ownBlock) : Nums B w' v k xs qs := by
  have hne := own_ne h.1 hs.1 ty_ne
  exact ⟨h.1.kept hg hne, h.2.1.kept h.1 hg hne, h.2.2.1, fun i hi => ratV_rcs (h.2.2.2.1 i hi) hs.2.1 hg, h.2.2.2.2⟩
end Go.Proofs.YtoiihehlgfgikaaGreatDoor
end

/- ExactSums: the walk of the law. -/
section
namespace Go.Proofs.YtoiihehlgfgikaaGreatDoor
open Go Go.RowKit Go.Deep

theorem row3 {W : World} {r t : Nat} {x y z : Value} (h : W.heap[r]? = some (.cells #[x, y, z] t (0, 0))) : W.cell? ⟨r, 0, none⟩ = some x ∧ W.cell? ⟨r, 1, none⟩ = some y ∧ W.cell? ⟨r, 2, none⟩ = some z := by
  refine ⟨?_, ?_, ?_⟩ <;> (rw [cell_of_row _ _ _ _ _ _ h]; rfl)

theorem two_allocs (w : World) (o1 o2 : Obj) : Below w.heap.size w (w.drew.alloc o1) ∧ Below w.heap.size w ((w.drew.alloc o1).alloc o2) ∧ Below w.heap.size w ((w.drew.alloc o2).alloc o1) ∧
    (w.drew.alloc o1).heap[w.heap.size]? = some o1 ∧ ((w.drew.alloc o1).alloc o2).heap[w.heap.size]? = some o1 ∧ ((w.drew.alloc o1).alloc o2).heap[w.heap.size + 1]? = some o2 ∧
    ((w.drew.alloc o2).alloc o1).heap[w.heap.size + 1]? = some o1 ∧ ((w.drew.alloc o2).alloc o1).heap[w.heap.size]? = some o2 := by
  have B0 : Below w.heap.size w w.drew := Below.drew (Below.refl _ _)
  have h1 : ∀ o : Obj, (w.drew.alloc o).heap.size = w.heap.size + 1 := fun o => by simp
  have h2 : ∀ o : Obj, (w.drew.alloc o).heap[w.heap.size]? = some o := fun o => heap_alloc_new w.drew o
  have h3 : ∀ o o' : Obj, ((w.drew.alloc o).alloc o').heap[w.heap.size + 1]? = some o' := fun o o' => by
    have h9 := heap_alloc_new (w.drew.alloc o) o'
    rwa [h1] at h9
  have h4 : ∀ o o' : Obj, ((w.drew.alloc o).alloc o').heap[w.heap.size]? = some o := fun o o' => by
    rw [Below.heap_alloc _ _ _ (by rw [h1]; omega)]
    exact h2 o
  exact ⟨B0.alloc (Nat.le_refl _) _, (B0.alloc (Nat.le_refl _) _).alloc (by rw [h1]; omega) _, (B0.alloc (Nat.le_refl _) _).alloc (by rw [h1]; omega) _, h2 _, h4 _ _, h3 _ _, h3 _ _, h4 _ _⟩

set_option maxRecDepth 100000 in
set_option maxHeartbeats 16000000 in
theorem l_sums (w : World) (A : Option Addr) (n c : Nat) (ts us : Nat → Int) (m : Int) (h : Pairs w A n ts us) (htab : Tab w) (hm : w.cell? ⟨3, 0, none⟩ = some (.int .i64 m)) :
    Calls Tryz.prog 4 #[.slice A n c] w fun e w' => e = .returned (.bool true) ∧ Below w.heap.size w w' := by
  have h0 : 3 < w.heap.size := by
    by_cases h : 3 < w.heap.size
    · exact h
    · exfalso
      have : w.heap[3]? = none := Array.getElem?_eq_none (by omega)
      simp [World.cell?, this] at hm
  have HWk : Hid (∀ W, Below w.heap.size w W → Calls Tryz.prog 8 #[] W fun e w' => e = .returned (.bool true) ∧ Below W.heap.size W w') :=
    fun W hW => c_works W m ((hW.cell (p := ⟨3, 0, none⟩) h0).trans hm)
  clear hm h0
  have HT := Lib.hid htab
  have HP := Lib.hid h
  clear h htab
  by_cases hn : n ≤ 40
  · go_enter Tryz.func4, Tryz.ntmps4
    go_wp2
    go_loopw [3, 4, 5] (fun xv rv i wr => ∃ (k j : Nat) (xs : Nat → Value) (rs : Nat → List Value) (qs : Nat → Rat), k ≤ n ∧ j ≤ k ∧ i = .int .i64 k ∧ Hid (Nums w.heap.size wr xv j xs qs ∧ Refs w.heap.size wr rv j rs qs) ∧ Below w.heap.size w wr) (fun _ _ i _ => n - (intOf i).toNat)
    case atStart =>
      exact ⟨0, 0, fun _ => .pointer none, fun _ => [.bool false, .slice none 0 0, .slice none 0 0], fun _ => 0, Nat.zero_le _, Nat.le_refl _, rfl, ⟨⟨World.ownsRow_nil _ _ _ _, fun g hg => by simp [Value.ownBlock] at hg, fun _ => ⟨none, rfl⟩, fun _ h => absurd h (by omega), fun _ h => absurd h (by omega)⟩,
        ⟨World.ownsRow_nil _ _ _ _, fun g hg => by simp [Value.ownBlock] at hg, fun _ => ⟨_, _, _, _, _, _, _, rfl⟩, fun _ h => absurd h (by omega), fun _ h => absurd h (by omega)⟩⟩, Below.refl _ _⟩
    case round =>
      obtain ⟨k, j, xs, rs, qs, hk, hj, rfl, H, hb⟩ := hrel
      by_cases hlt : k < n
      · obtain ⟨b, o, rfl, hbb, hc⟩ := HP.out (by omega)
        obtain ⟨p1, p2, ⟨b1, b2⟩, ⟨b3, b4⟩⟩ := hc k hlt
        have hkept : ∀ p : Nat, wr.cell? ⟨b, p, none⟩ = w.cell? ⟨b, p, none⟩ := fun p => hb.cell (p := ⟨b, p, none⟩) hbb
        rw [← hkept] at p1 p2
        have HB := Lib.hid hb
        clear hb hkept hc
        generalize ts k = x at *
        generalize us k = y at *
        by_cases hy : y = 0
        · subst hy
          obtain ⟨A1, c1, rfl, _, _, _⟩ := ownsRow_slice H.out.1.1
          obtain ⟨A2, c2, rfl⟩ := H.out.2.sl
          have HZ0 := Lib.hid (fun W => r_Of_zero W x)
          have HPk : Hid (∀ W, Below wr.heap.size wr W → W.cell? ⟨b, o + k * 2, none⟩ = some (.int .i64 x) ∧ W.cell? ⟨b, o + k * 2 + 1, none⟩ = some (.int .i64 0)) := fun W hW =>
            ⟨(hW.cell (p := ⟨b, o + k * 2, none⟩) (Nat.lt_of_lt_of_le hbb HB.out.size)).trans p1, (hW.cell (p := ⟨b, o + k * 2 + 1, none⟩) (Nat.lt_of_lt_of_le hbb HB.out.size)).trans p2⟩
          clear p1 p2 b1 b2 b3 b4
          go_wp2_with fail
          have B0d : Below wr.heap.size wr wr.drew := Below.drew (Below.refl _ _)
          have B0a : Below wr.heap.size wr (wr.drew.alloc (.cells #[.bool false, .slice none 0 0, .slice none 0 0] 28)) := B0d.alloc (Nat.le_refl _) _
          have sc : ∀ W a b c (rb : Nat), wr.heap.size ≤ rb → Below wr.heap.size wr W → Below wr.heap.size wr (((W.setCell ⟨rb, 0, none⟩ a).setCell ⟨rb, 1, none⟩ b).setCell ⟨rb, 2, none⟩ c) := fun W a b c rb hr hW =>
            ((hW.setCell (p := ⟨rb, 0, none⟩) hr _).setCell (p := ⟨rb, 1, none⟩) hr _).setCell (p := ⟨rb, 2, none⟩) hr _
          go_region_held3 (fun w' => w'.cell? ⟨b, o + k * 2, none⟩ = some (.int .i64 x) ∧ w'.cell? ⟨b, o + k * 2 + 1, none⟩ = some (.int .i64 0))
            (first | exact HPk.out _ (B1.alloc B1.size _) | exact HPk.out _ (sc _ _ _ _ _ (Nat.le_refl _) B1) | exact HPk.out _ (sc _ _ _ _ _ B1.size (B1.alloc B1.size _)) | exact HPk.out _ B1 | exact HPk.out _ B0a | exact HPk.out _ B0d | exact HPk.out _ (Below.refl _ _))
            (first
              | (go_at_call 7; refine (HZ0.out _).mono ?_; rintro e w1 ⟨rfl, hb1⟩; have B1 : Below wr.heap.size wr w1 := btr B0a hb1; have hz1 : w1.heap[wr.heap.size]? = some (.cells #[.bool false, .slice none 0 0, .slice none 0 0] 28 (0, 0)) := (hb1.block _ (by simp)).trans (heap_alloc_new _ _); obtain ⟨r0, r1, r2, f0, f1, f2⟩ := res_r hz1)
              | (go_at_call 7; refine (HZ0.out _).mono ?_; rintro e w1 ⟨rfl, hb1⟩; have B1 : Below wr.heap.size wr w1 := btr B0d hb1))
          all_goals
            have HB1 := Lib.hid B1
            clear B0d B0a hb1 B1
            first
            | (have hz2 := hz1
               generalize hW8 : (((w1.setCell ⟨wr.heap.size, 0, none⟩ (.bool false)).setCell ⟨wr.heap.size, 1, none⟩ (.slice none 0 0)).setCell ⟨wr.heap.size, 2, none⟩ (.slice none 0 0)) = W8
               generalize hrb : wr.heap.size = rb
               have HB8 : Hid (Below wr.heap.size wr W8) := by
                 rw [← hW8]
                 exact sc _ _ _ _ _ (Nat.le_refl _) HB1.out
               clear hz1 hz2 hW8 r0 r1 r2 f0 f1 f2)
            | (generalize hW8 : w1.alloc (.cells #[.bool false, .slice none 0 0, .slice none 0 0] 28) = W8
               generalize hrb : w1.heap.size = rb
               have HB8 : Hid (Below wr.heap.size wr W8) := by
                 rw [← hW8]; exact HB1.out.alloc HB1.out.size _
               clear hW8)
            clear HB1 sc
            go_wp2
            go_roundw
            case rel => exact ⟨k + 1, j, xs, rs, qs, by omega, by omega, by go_num, ⟨H.out.1.below HB8.out, H.out.2.below HB8.out⟩, HB.out.trans (HB8.out.mono HB.out.size)⟩
            case measure => simp [intOf]; omega
        · obtain ⟨q, kq, k9, HO, HR⟩ := both_of x y b1 b2 b3 b4 hy
          have HO' := Lib.hid HO
          have HR' := Lib.hid HR
          have HK := Lib.hid (And.intro kq k9)
          clear HO HR b1 b2 b3 b4 kq k9
          obtain ⟨A1, c1, rfl, _, _, _⟩ := ownsRow_slice H.out.1.1
          obtain ⟨A2, c2, rfl⟩ := H.out.2.sl
          go_wp2_with fail
          have HPk : Hid (∀ W, Below wr.heap.size wr W → W.cell? ⟨b, o + k * 2, none⟩ = some (.int .i64 x) ∧ W.cell? ⟨b, o + k * 2 + 1, none⟩ = some (.int .i64 y)) := fun W hW =>
            ⟨(hW.cell (p := ⟨b, o + k * 2, none⟩) (Nat.lt_of_lt_of_le hbb HB.out.size)).trans p1, (hW.cell (p := ⟨b, o + k * 2 + 1, none⟩) (Nat.lt_of_lt_of_le hbb HB.out.size)).trans p2⟩
          clear p1 p2
          have B0d : Below wr.heap.size wr wr.drew := Below.drew (Below.refl _ _)
          have B0a : Below wr.heap.size wr (wr.drew.alloc (.cells #[.bool false, .slice none 0 0, .slice none 0 0] 28)) := B0d.alloc (Nat.le_refl _) _
          have sc : ∀ W a b c (rb : Nat), wr.heap.size ≤ rb → Below wr.heap.size wr W → Below wr.heap.size wr (((W.setCell ⟨rb, 0, none⟩ a).setCell ⟨rb, 1, none⟩ b).setCell ⟨rb, 2, none⟩ c) := fun W a b c rb hr hW =>
            ((hW.setCell (p := ⟨rb, 0, none⟩) hr _).setCell (p := ⟨rb, 1, none⟩) hr _).setCell (p := ⟨rb, 2, none⟩) hr _
          go_region_held3 (fun w' => w'.cell? ⟨b, o + k * 2, none⟩ = some (.int .i64 x) ∧ w'.cell? ⟨b, o + k * 2 + 1, none⟩ = some (.int .i64 y))
            (first | exact HPk.out _ (B1.alloc B1.size _) | exact HPk.out _ (sc _ _ _ _ _ (Nat.le_refl _) B1) | exact HPk.out _ (sc _ _ _ _ _ B1.size (B1.alloc B1.size _)) | exact HPk.out _ B1 | exact HPk.out _ B0a | exact HPk.out _ B0d | exact HPk.out _ (Below.refl _ _))
            (first
              | (go_at_call 7; refine (HR'.out _).mono ?_; rintro e w1 ⟨r, rfl, hr, hb1⟩; obtain ⟨ru, rv, rfl, hru, hrv⟩ := hr; obtain ⟨A3, c3, rfl⟩ := hru.sl; obtain ⟨A4, c4, rfl⟩ := hrv.sl;
                 have B1 : Below wr.heap.size wr w1 := btr B0a hb1; have hz1 : w1.heap[wr.heap.size]? = some (.cells #[.bool false, .slice none 0 0, .slice none 0 0] 28 (0, 0)) := (hb1.block _ (by simp)).trans (heap_alloc_new _ _); obtain ⟨r0, r1, r2, f0, f1, f2⟩ := res_r hz1)
              | (go_at_call 7; refine (HR'.out _).mono ?_; rintro e w1 ⟨r, rfl, hr, hb1⟩; obtain ⟨ru, rv, rfl, hru, hrv⟩ := hr; obtain ⟨A3, c3, rfl⟩ := hru.sl; obtain ⟨A4, c4, rfl⟩ := hrv.sl; have B1 : Below wr.heap.size wr w1 := btr B0d hb1))
          all_goals
            have HRx : Hid (RefV w1 (.agg #[.bool (decide (q.num < 0)), .slice A3 (nw9 q.num.natAbs) c3, .slice A4 (nw9 q.den) c4]) q) := ⟨_, _, rfl, hru, hrv⟩
            have HB1 := Lib.hid B1
            clear hru hrv B0d B0a sc hb1 B1
            generalize decide (q.num < 0) = ds at *
            generalize nw9 q.num.natAbs = dn at *
            generalize nw9 q.den = dd at *
            first
            | (have hz2 := hz1
               generalize hW8 : (((w1.setCell ⟨wr.heap.size, 0, none⟩ (.bool ds)).setCell ⟨wr.heap.size, 1, none⟩ (.slice A3 dn c3)).setCell ⟨wr.heap.size, 2, none⟩ (.slice A4 dd c4)) = W8
               generalize hrb : wr.heap.size = rb
               have HB8 : Hid (Below wr.heap.size wr W8) := by
                 rw [← hW8]
                 exact (((HB1.out.setCell (p := ⟨wr.heap.size, 0, none⟩) (Nat.le_refl _) _).setCell (p := ⟨wr.heap.size, 1, none⟩) (Nat.le_refl _) _).setCell (p := ⟨wr.heap.size, 2, none⟩) (Nat.le_refl _) _)
               have HRow8 : Hid (W8.heap[rb]? = some (.cells #[.bool ds, .slice A3 dn c3, .slice A4 dd c4] 28 (0, 0))) := by
                 rw [← hW8, ← hrb]; exact put3 hz2 _ _ _
               have HR8 : Hid (RefV W8 (.agg #[.bool ds, .slice A3 dn c3, .slice A4 dd c4]) q) := by
                 rw [← hW8]; exact HRx.out.apart (ref_noint hz2) (grown3 _ _ _ _ _)
               have hsz8 : wr.heap.size ≤ rb := by omega
               clear hz1 hz2 hW8 hrb r0 r1 r2 f0 f1 f2)
            | (generalize hW8 : w1.alloc (.cells #[.bool ds, .slice A3 dn c3, .slice A4 dd c4] 28) = W8
               generalize hrb : w1.heap.size = rb
               have HB8 : Hid (Below wr.heap.size wr W8) := by
                 rw [← hW8]; exact HB1.out.alloc HB1.out.size _
               have HRow8 : Hid (W8.heap[rb]? = some (.cells #[.bool ds, .slice A3 dn c3, .slice A4 dd c4] 28 (0, 0))) := by
                 rw [← hW8, ← hrb]; exact heap_alloc_new _ _
               have HR8 : Hid (RefV W8 (.agg #[.bool ds, .slice A3 dn c3, .slice A4 dd c4]) q) := by
                 rw [← hW8]; exact HRx.out.below ((Below.refl _ _).alloc (Nat.le_refl _) _)
               have hsz8 : wr.heap.size ≤ rb := by have := HB1.out.size; omega
               clear hW8 hrb)
            clear HRx HB1
            have HP8 : Hid (∀ W, Below W8.heap.size W8 W → W.cell? ⟨b, o + k * 2, none⟩ = some (.int .i64 x) ∧ W.cell? ⟨b, o + k * 2 + 1, none⟩ = some (.int .i64 y)) := fun W hW => HPk.out W (btr HB8.out hW)
            clear HPk
            go_wp2_with fail
            have B8d : Below W8.heap.size W8 W8.drew := Below.drew (Below.refl _ _)
            go_region_held3 (fun w' => w'.cell? ⟨b, o + k * 2, none⟩ = some (.int .i64 x) ∧ w'.cell? ⟨b, o + k * 2 + 1, none⟩ = some (.int .i64 y))
              (first | exact HP8.out _ B9 | exact HP8.out _ B8d | exact HP8.out _ (Below.refl _ _))
              (first
                | (go_at_call 6; refine (HO'.out _).mono ?_; rintro e w9 ⟨u, rfl, hu, hb9⟩; have B9 : Below W8.heap.size W8 w9 := btr B8d hb9))
            have HB9 := Lib.hid B9
            have HU := Lib.hid hu
            have hrlt : rb < W8.heap.size := (Array.getElem?_eq_some_iff.1 HRow8.out).1
            have HRow9 : Hid (w9.heap[rb]? = some (.cells #[.bool ds, .slice A3 dn c3, .slice A4 dd c4] 28 (0, 0))) := (HB9.out.block _ hrlt).trans HRow8.out
            have HR9 := Lib.hid (HR8.out.below HB9.out)
            have HBw9 := Lib.hid (btr HB8.out HB9.out)
            have HH9 : Hid (Nums w.heap.size w9 (.slice A1 j c1) j xs qs ∧ Refs w.heap.size w9 (.slice A2 j c2) j rs qs) := ⟨H.out.1.below HBw9.out, H.out.2.below HBw9.out⟩
            have hrs : ∀ g, (Value.slice A2 j c2).ownBlock = some g → g < wr.heap.size := fun g hg => (H.out.2.1.lt g hg).2
            obtain ⟨px, rfl⟩ : ∃ a, u = .pointer a := ratV_ptr hu
            clear hu hb9 B9 B8d HR8 HRow8 HB8 HP8
            have HBw : Hid (Below w.heap.size w w9) := HB.out.trans (HBw9.out.mono HB.out.size)
            have HBs : Hid (w.heap.size ≤ w9.heap.size) := HBw.out.size
            have hrb9 : rb < w9.heap.size := Nat.lt_of_lt_of_le hrlt HB9.out.size
            have hj9 : j ≤ 40 := by omega
            clear H
            have B9d : Below w9.heap.size w9 w9.drew := Below.drew (Below.refl _ _)
            have HRc : Hid (Rc3 [.bool ds, .slice A3 dn c3, .slice A4 dd c4]) := ⟨_, _, _, _, _, _, _, rfl⟩
            have HAll := Lib.hid (two_allocs w9 (.cells #[.pointer px] 22) (.cells #[.bool ds, .slice A3 dn c3, .slice A4 dd c4] 28))
            go_wp2_with fail
            go_region_held3 (fun w' => w'.cell? ⟨rb, 0, none⟩ = some (.bool ds) ∧ w'.cell? ⟨rb, 1, none⟩ = some (.slice A3 dn c3) ∧ w'.cell? ⟨rb, 2, none⟩ = some (.slice A4 dd c4))
              (first | exact row3 hrow11 | exact row3 ((Below.heap_alloc _ _ _ hrb10).trans hrow10) | exact row3 hrow10 | exact row3 ((HAll.out.2.1.block rb hrb9).trans HRow9.out) | exact row3 ((HAll.out.2.2.1.block rb hrb9).trans HRow9.out) | exact row3 ((HAll.out.1.block rb hrb9).trans HRow9.out) | exact row3 (((B9d.alloc (Nat.le_refl _) _).block rb hrb9).trans HRow9.out) | exact row3 ((B9d.block rb hrb9).trans HRow9.out) | exact row3 HRow9.out)
              (first
                | (refine step_app_x rfl _ _ rfl w.heap.size _ j xs qs (.pointer px) q _ rfl rfl (HH9.out.1.below HAll.out.1) HAll.out.2.2.2.1 ⟨_, rfl⟩ (HU.out.below HAll.out.1) (HK.out.1.mono (by omega)) (by omega) (Nat.le_trans HBs.out HAll.out.1.size) ?_; intro v1 w10 hn1 hg1 ha1;
                   have hR10 := (HH9.out.2.below HAll.out.1).past_x (HH9.out.1.below HAll.out.1) hg1; have hrow10 := (hg1.block rb (Nat.lt_of_lt_of_le hrb9 HAll.out.1.size) (row_far (HH9.out.1.below HAll.out.1).1 ((HAll.out.1.block rb hrb9).trans HRow9.out) ty_ne)).trans ((HAll.out.1.block rb hrb9).trans HRow9.out); have hq10 := (HR9.out.below HAll.out.1).far ha1 ptr_u9 hg1;
                   have hb10 := (HBw.out.trans (HAll.out.1.mono HBs.out)).grown hg1 (Nat.le_trans HBs.out HAll.out.1.size) (fun g hg => (HH9.out.1.1.lt g hg).1); have hrb10 : rb < w10.heap.size := (Array.getElem?_eq_some_iff.1 hrow10).1)
                | (refine step_app_x rfl _ _ rfl w.heap.size _ j xs qs (.pointer px) q _ rfl rfl (HH9.out.1.below HAll.out.2.1) HAll.out.2.2.2.2.1 ⟨_, rfl⟩ (HU.out.below HAll.out.2.1) (HK.out.1.mono (by omega)) (by omega) (Nat.le_trans HBs.out HAll.out.2.1.size) ?_; intro v1 w10 hn1 hg1 ha1;
                   have hR10 := (HH9.out.2.below HAll.out.2.1).past_x (HH9.out.1.below HAll.out.2.1) hg1; have hrow10 := (hg1.block rb (Nat.lt_of_lt_of_le hrb9 HAll.out.2.1.size) (row_far (HH9.out.1.below HAll.out.2.1).1 ((HAll.out.2.1.block rb hrb9).trans HRow9.out) ty_ne)).trans ((HAll.out.2.1.block rb hrb9).trans HRow9.out); have hq10 := (HR9.out.below HAll.out.2.1).far ha1 ptr_u9 hg1;
                   have hb10 := (HBw.out.trans (HAll.out.2.1.mono HBs.out)).grown hg1 (Nat.le_trans HBs.out HAll.out.2.1.size) (fun g hg => (HH9.out.1.1.lt g hg).1); have hrb10 : rb < w10.heap.size := (Array.getElem?_eq_some_iff.1 hrow10).1; have hl10 := (hg1.block (w9.heap.size + 1) (Array.getElem?_eq_some_iff.1 HAll.out.2.2.2.2.2.1).1 (row_far (HH9.out.1.below HAll.out.2.1).1 HAll.out.2.2.2.2.2.1 ty_ne)).trans HAll.out.2.2.2.2.2.1)
                | (refine step_app_x rfl _ _ rfl w.heap.size _ j xs qs (.pointer px) q _ rfl rfl (HH9.out.1.below HAll.out.2.2.1) HAll.out.2.2.2.2.2.2.1 ⟨_, rfl⟩ (HU.out.below HAll.out.2.2.1) (HK.out.1.mono (by omega)) (by omega) (Nat.le_trans HBs.out HAll.out.2.2.1.size) ?_; intro v1 w10 hn1 hg1 ha1;
                   have hR10 := (HH9.out.2.below HAll.out.2.2.1).past_x (HH9.out.1.below HAll.out.2.2.1) hg1; have hrow10 := (hg1.block rb (Nat.lt_of_lt_of_le hrb9 HAll.out.2.2.1.size) (row_far (HH9.out.1.below HAll.out.2.2.1).1 ((HAll.out.2.2.1.block rb hrb9).trans HRow9.out) ty_ne)).trans ((HAll.out.2.2.1.block rb hrb9).trans HRow9.out); have hq10 := (HR9.out.below HAll.out.2.2.1).far ha1 ptr_u9 hg1;
                   have hb10 := (HBw.out.trans (HAll.out.2.2.1.mono HBs.out)).grown hg1 (Nat.le_trans HBs.out HAll.out.2.2.1.size) (fun g hg => (HH9.out.1.1.lt g hg).1); have hrb10 : rb < w10.heap.size := (Array.getElem?_eq_some_iff.1 hrow10).1; have hl10 := (hg1.block w9.heap.size (Array.getElem?_eq_some_iff.1 HAll.out.2.2.2.2.2.2.2).1 (row_far (HH9.out.1.below HAll.out.2.2.1).1 HAll.out.2.2.2.2.2.2.2 ty_ne)).trans HAll.out.2.2.2.2.2.2.2)
                | (refine step_app_r rfl _ _ rfl w.heap.size _ j rs qs [.bool ds, .slice A3 dn c3, .slice A4 dd c4] q _ rfl rfl hR10 hl10 HRc.out hq10 (refW3 HK.out.1) (by omega) hb10.size ?_; intro v2 w11 hn2 hg2 ha2;
                   have hN11 := hn1.past_r hR10 hg2; have hB11 := hb10.grown hg2 hb10.size (fun g hg => (hR10.1.lt g hg).1); have hrow11 := (hg2.block rb hrb10 (fun e => by have := hrs rb e.symm; omega)).trans hrow10)
                | (have bA : Below w10.heap.size w10 (w10.alloc (.cells #[.bool ds, .slice A3 dn c3, .slice A4 dd c4] 28)) := (Below.refl _ _).alloc (Nat.le_refl _) _; refine step_app_r rfl _ _ rfl w.heap.size _ j rs qs [.bool ds, .slice A3 dn c3, .slice A4 dd c4] q _ rfl rfl (hR10.below bA) (heap_alloc_new w10 _) HRc.out (hq10.below bA) (refW3 HK.out.1) (by omega) (Nat.le_trans hb10.size bA.size) ?_; intro v2 w11 hn2 hg2 ha2;
                   have hN11 := (hn1.below bA).past_r (hR10.below bA) hg2; have hB11 := (hb10.trans (bA.mono hb10.size)).grown hg2 (Nat.le_trans hb10.size bA.size) (fun g hg => (hR10.1.lt g hg).1); have hrow11 := (hg2.block rb (Nat.lt_of_lt_of_le hrb10 bA.size) (fun e => by have := hrs rb e.symm; omega)).trans ((Below.heap_alloc _ _ _ hrb10).trans hrow10)))
            all_goals
              have HF := Lib.hid (And.intro (And.intro hN11 hn2) hB11)
              clear hn1 hg1 ha1 hR10 hrow10 hq10 hb10 hn2 hg2 ha2 hN11 hB11 hrow11
              go_wp2
              go_roundw
              case rel => exact ⟨k + 1, j + 1, _, _, _, by omega, by omega, by go_num, HF.out.1, HF.out.2⟩
              case measure => simp [intOf]; omega
      · obtain rfl : k = n := by omega
        obtain ⟨A1, c1, rfl, _, hnone, hsome⟩ := ownsRow_slice H.out.1.1
        obtain ⟨A2, c2, rfl⟩ := H.out.2.sl
        have hA : ∀ i, i < j → ∃ b o, A1 = some ⟨b, o, none⟩ ∧ b < wr.heap.size ∧ wr.cell? ⟨b, o + i, none⟩ = some (xs i) := fun i hi => by
          rcases A1 with _ | ⟨g, o, s⟩
          · have := (hnone rfl).1; omega
          · obtain ⟨rfl, rfl, _, hlt, hc⟩ := hsome g o s rfl
            exact ⟨g, 0, rfl, hlt, by rw [Nat.zero_add]; exact hc i hi⟩
        have HS1 := Lib.hid (v_Sum wr A1 j c1 2 xs qs H.out.1.2.2.1 hA H.out.1.2.2.2.1 H.out.1.2.2.2.2 (by omega) (by omega))
        obtain ⟨sg, us', vs', hR, hV⟩ := H.out.2.reads
        have HS2 := Lib.hid (fun W (hW : Below wr.heap.size wr W) => r_Sum W A2 j c2 3 sg us' vs' qs (fun i hi => by
          obtain ⟨b, o, e, hb9, g1, g2, g3⟩ := hR i hi
          exact ⟨b, o, e, Nat.lt_of_lt_of_le hb9 hW.size, (hW.cell (p := ⟨b, o + i * 3, none⟩) hb9).trans g1, (hW.cell (p := ⟨b, o + i * 3 + 1, none⟩) hb9).trans g2, (hW.cell (p := ⟨b, o + i * 3 + 2, none⟩) hb9).trans g3⟩) (fun i hi => (hV i hi).below hW) H.out.2.2.2.2.2 (by omega) (by omega))
        have HW1 := Lib.hid ((sumQ_w qs 2 j H.out.1.2.2.2.2 j (Nat.le_refl _)).mono (show j * (2 + 1) + 1 ≤ 90000 by omega))
        have HW2 := Lib.hid ((sumQ_r qs 3 j H.out.2.2.2.2.2 j (Nat.le_refl _)).mono (show j * (3 + 1) + 1 ≤ 90000 by omega))
        have HB := Lib.hid hb
        generalize sumQ qs j = q at *
        clear hA hR hV hnone hsome hb H
        go_wp2_with fail
        refine HS1.out.mono ?_
        rintro e w2 ⟨u, rfl, hu, hb2⟩
        have HU := Lib.hid hu
        have HB2 := Lib.hid hb2
        clear hu hb2
        go_wp2_with fail
        refine (HS2.out _ HB2.out).mono ?_
        rintro e w3 ⟨r, rfl, hr, hb3⟩
        have HB3 := Lib.hid (HB.out.trans ((btr HB2.out hb3).mono HB.out.size))
        have HU3 := Lib.hid (HU.out.below hb3)
        have HSm := Lib.hid (l_same w3 u r q HU3.out hr HW1.out HW2.out (HT.out.below HB3.out) (c_BitsQ w3 u q HU3.out HW1.out))
        clear hr hb3
        go_wp2_with fail
        refine HSm.out.mono ?_
        rintro e w4 ⟨rfl, hb4⟩
        have HB4 := Lib.hid (HB3.out.trans (hb4.mono HB3.out.size))
        clear hb4
        go_wp2_with fail
        refine (HWk.out _ HB4.out).mono ?_
        rintro e w5 ⟨rfl, hb5⟩
        have HB5 := Lib.hid (HB4.out.trans (hb5.mono HB4.out.size))
        clear hb5
        go_wp2
        go_ret
        exact ⟨rfl, HB5.out⟩
  · have hn' : (40 : Int) < (n : Int) := by omega
    go_enter Tryz.func4, Tryz.ntmps4
    go_wp2_with fail
    refine (HWk.out _ (Below.refl _ _)).mono ?_
    rintro e w2 ⟨rfl, hb2⟩
    go_wp2
    go_ret
    exact ⟨rfl, hb2⟩
end Go.Proofs.YtoiihehlgfgikaaGreatDoor
end

/- ExactSums: the sum of whatever list of quotients is the document's own: the law returns true. Its row lists package-level variables of Go's library, tied to the program's text by the card. -/
section
namespace Go.Proofs.YtoiihehlgfgikaaGreatDoor
open Go.ChangeShapes Go.WideShapes Go.ChangeAt Go.RowKit

set_option maxRecDepth 100000 in
theorem sums_lifted (os : Os) (started : os.Started) (H : Type) (enc : TypeId × Value → H) :
    ReturnsInHanded {} Tryz.checked os 4 .any (fun w args => (Rows.exactSumsSpec.pre enc Tryz.prog Tryz.f4 [] false w args ∧ laidMetH Tryz.prog Rows.exactSumsRow.laid w) ∧ sizedMet enc Tryz.prog Tryz.f4 (OpenSpec.ofChange Rows.exactSumsSpec) false w args)
      (Rows.exactSumsSpec.post enc Tryz.prog Tryz.f4 false true false false) := by
  refine handed_laid_shaped (C := Tryz.checked) (X := fun w _ => laidMetH Tryz.prog Rows.exactSumsRow.laid w) (fun _ _ _ hh h => h.of_heap hh) own started (by kernel_rfl) Tryz.func4
    (ChangeSpec.witness_shaped (enc := enc) (C := Tryz.checked) (os := os) (X := fun w _ => laidMetH Tryz.prog Rows.exactSumsRow.laid w) false (World.laidAll Tryz.prog os Rows.exactSumsRow.laid) #[.slice none 0 0] 8 (World.laidAll_os _ _ _)
      (World.shaped_of_ZipB (by kernel_rfl) (by kernel_rfl)) (by kernel_rfl) (by kernel_rfl) (by kernel_rfl)
      (by rw [MakeChecks.laidMetH_plain _ _ _ (by kernel_rfl)]; exact laidMet_laidAll _ (by kernel_rfl) (by kernel_rfl))) ?_
  intro W base args ds gs before hval0 hW hlaid hsh
  have hval : ∀ (j : Nat) t v, Tryz.f4.params[j]? = some t → args[j]? = some v → Value.okWide Tryz.prog W .any base t v := hval0
  have htab : Tab W := by
    rw [MakeChecks.laidMetH_plain _ _ _ (by kernel_rfl)] at hlaid
    exact tab_of hlaid
  have hW' := hW
  obtain ⟨p, q, hA0, hV, rfl, _, _⟩ := hW
  have hA : DataW.TrodAll enc Tryz.prog W 0 (fun _ => true) true Tryz.f4.params.toList args.toList ds p := hA0
  rw [Tryz.params4] at hA hval
  obtain ⟨v0, d0, rfl, rfl, h0⟩ := trodAll_one hA
  obtain ⟨rfl, rfl⟩ := trodVars_none hV
  obtain ⟨A, n1, c1, rfl⟩ := okWide_slice Tryz.underlying34 (hval 0 34 v0 rfl rfl)
  clear hA0 hval0
  simp only [List.append_nil] at hW'
  obtain ⟨m, hm⟩ := maxLen_cell hsh
  have hlt0 : ∀ x ∈ p, x.block < W.heap.size := fun x hx => hW'.lt x (by simp [hx])
  have k0 := h0
  obtain ⟨_, f0⟩ := h0
  obtain ⟨t1, s1, P1⟩ := open_pairs Tryz.underlying34 Tryz.underlying37 Tryz.underlying2 cellsPair cellsI64 f0
  refine (l_sums W A n1 c1 t1 s1 m P1 htab hm).mono fun e W' ⟨he, hb⟩ => ?_
  subst he
  have tr := fun {v : Value} {d : DataW H} {ps : List MemPlace} (h : DataW.Trod enc Tryz.prog W 0 (fun _ => true) true 34 v d ps) (hlt : ∀ x ∈ ps, x.block < W.heap.size) =>
    Below.trod laidOut' (t := 34) (by kernel_rfl) (of_decide_eq_true (by kernel_rfl)) h hb hlt
  exact ⟨_, rfl, ⟨_, _, _, [], _, [], hW', trodAll_mk1 (shut_bool Tryz.underlying4 _), trodAll_mk1 (tr k0 hlt0), rfl, hb.frame _, fun h => by cases h⟩⟩

theorem sums_row : Rows.ExactSumsSaid :=
  OpenClaim.holds_of_wide 4 Tryz.f4 rfl rfl rfl rfl rfl rfl rfl ⟨rfl, rfl, rfl, rfl, rfl⟩ rfl rfl rfl rfl rfl (by kernel_rfl) Tryz.func4 (by kernel_rfl)
    (of_decide_eq_true (by kernel_rfl)) (by unfold Func.isWrapper; first | (rw [if_pos (by decide +kernel)]; kernel_rfl) | (rw [if_neg (by decide +kernel)]; exact ⟨rfl, rfl⟩))
    (fun os started H enc _ => sums_lifted os started H enc)

theorem sums_card : Rows.ExactSumsCardSaid :=
  Claim7.holds_tied_plain_at .later [] Rows.exactSumsCard.laidKinds true Rows.exactSumsCard.stood.harness true
    sums_row (fun _ h => by cases h) (by kernel_rfl) (fun _ h => by cases h) exactSums_row_tie rfl ⟨rfl, rfl⟩ (by kernel_rfl) rfl
    (fun f fn hf hfn => by
      obtain rfl : f = 4 := Option.some.inj ((show Tryz.prog.funcNamed "tesseract/tesseractlaw01.ExactSums" = some 4 by kernel_rfl).symm.trans hf) |>.symm
      obtain rfl : fn = Tryz.f4 := (Option.some.inj (Tryz.func4.symm.trans hfn)).symm
      exact ⟨by kernel_rfl, fun j t ht => by
        rw [Tryz.params4] at ht
        have hin : t ∈ [34] := by have := Array.mem_of_getElem? ht; simpa using this
        have hall : ([34].all fun u => !Tryz.prog.wantsStandIn u) = true := by kernel_rfl
        exact (show Tryz.prog.wantsStandIn t = false by simpa using List.all_eq_true.1 hall t hin)⟩)
    (by kernel_rfl)
end Go.Proofs.YtoiihehlgfgikaaGreatDoor
end
