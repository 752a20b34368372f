/- Foreseeing several steps of Euclid's algorithm: what the call returns. -/
import Derived.Test.YtnfncdalneifnaaGreatDoorZGcd2
import Derived.Test.YtnfncdalneifnaaGreatDoorZMath
namespace Go.Proofs.YtnfncdalneifnaaGreatDoor
open Go.RowKit Go.Deep

/-- The value of the steps. -/
abbrev St (n a0 b0 a1 b1 : Nat) : Value := .agg #[.int .i64 n, U a0, U b0, U a1, U b1]
theorem top_bits (z s n : Nat) (hs : s < 64) (hz : z < W64 ^ (n + 1) * 2 ^ (64 - s)) :
    bits .or .u64 (IntKind.u64.wrap ((dig z (n + 1) : Int) * 2 ^ s)) ((dig z n : Int) / 2 ^ (64 - s)) = ((z / (W64 ^ n * 2 ^ (64 - s)) : Nat) : Int) := by
  obtain ⟨e, h2, h3⟩ := top_word z s n hs hz
  rw [e]
  have h4 : IntKind.u64.wrap ((dig z (n + 1) : Int) * 2 ^ s) = ((dig z (n + 1) * 2 ^ s : Nat) : Int) := wrapN _ _ (by push_cast; rfl) (Nat.lt_of_le_of_lt (Nat.le_add_right _ _) h3)
  have h5 : (dig z n : Int) / 2 ^ (64 - s) = ((dig z n / 2 ^ (64 - s) : Nat) : Int) := by rw [Int.natCast_ediv, Int.natCast_pow]; rfl
  have h6 : dig z n / 2 ^ (64 - s) < W64 := Nat.lt_of_le_of_lt (Nat.le_add_left _ _) h3
  have h7 : dig z (n + 1) * 2 ^ s < W64 := Nat.lt_of_le_of_lt (Nat.le_add_right _ _) h3
  rw [h4, h5, bits_or_u64_nat _ _ h7 h6, Nat.mul_comm, ← Nat.two_pow_add_eq_or_of_lt h2, Nat.mul_comm]

theorem put5 {W : World} {r : Nat} {t : TypeId} {u0 u1 u2 u3 u4 : Value} (h : W.heap[r]? = some (.cells #[u0, u1, u2, u3, u4] t (0, 0))) (a b c d e : Value) :
    (((((W.setCell ⟨r, 0, none⟩ a).setCell ⟨r, 1, none⟩ b).setCell ⟨r, 2, none⟩ c).setCell ⟨r, 3, none⟩ d).setCell ⟨r, 4, none⟩ e).heap[r]? = some (.cells #[a, b, c, d, e] t (0, 0)) := by
  simp [World.setCell, Array.getElem?_modify, h]
theorem put5_other (W : World) {r k : Nat} (hk : k ≠ r) (a b c d e : Value) :
    (((((W.setCell ⟨r, 0, none⟩ a).setCell ⟨r, 1, none⟩ b).setCell ⟨r, 2, none⟩ c).setCell ⟨r, 3, none⟩ d).setCell ⟨r, 4, none⟩ e).heap[k]? = W.heap[k]? := by
  rw [Below.heap_setCell _ _ _ _ hk, Below.heap_setCell _ _ _ _ hk, Below.heap_setCell _ _ _ _ hk, Below.heap_setCell _ _ _ _ hk, Below.heap_setCell _ _ _ _ hk]
theorem below5 {B : Nat} {a W : World} (h : Below B a W) (r : Nat) (hr : B ≤ r) (x y z u v : Value) : Below B a (((((W.setCell ⟨r, 0, none⟩ x).setCell ⟨r, 1, none⟩ y).setCell ⟨r, 2, none⟩ z).setCell ⟨r, 3, none⟩ u).setCell ⟨r, 4, none⟩ v) :=
  ((((h.setCell (p := ⟨r, 0, none⟩) hr _).setCell (p := ⟨r, 1, none⟩) hr _).setCell (p := ⟨r, 2, none⟩) hr _).setCell (p := ⟨r, 3, none⟩) hr _).setCell (p := ⟨r, 4, none⟩) hr _
theorem info_st : (Tryz.prog.info? 166).map (·.size) = some 5 := by kernel_rfl

set_option maxRecDepth 100000 in
set_option maxHeartbeats 4000000 in
theorem c_foresee (w : World) (A A' : Option Addr) (c c' a b n m : Nat) (h : Wd w w.heap.size A n (dig a)) (h' : Wd w w.heap.size A' m (dig b)) (hn : nw a = n) (hm : nw b = m) (hn2 : 2 ≤ n) (hle : b ≤ a) (hM : n ≤ 1000000000) :
    Calls Tryz.prog 154 #[.slice A n c, .slice A' m c'] w fun e w' => ∃ cnt a0 b0 a1 b1 x y X Y H : Nat, e = .returned (St cnt a0 b0 a1 b1) ∧ a0 < W64 ∧ b0 < W64 ∧ a1 < W64 ∧ b1 < W64 ∧ cnt < 4294967296 ∧
      Sim a b (a / H) (b / H) H (a % H) (b % H) cnt x y a0 b0 a1 b1 X Y ∧ Below w.heap.size w w' := by
  have hX : a < W64 ^ n := by rw [← hn]; exact lt_nw a
  have hY : b < W64 ^ m := by rw [← hm]; exact lt_nw b
  have ha0 : 0 < a := (nw_pos a).1 (by omega)
  have htop : 0 < dig a (n - 1) := by
    have := dig_top a ha0
    rw [hn] at this
    exact Nat.pos_of_ne_zero this
  obtain ⟨s, hs, hsL, hs2, hs3⟩ := lz_shift (dig a (n - 1)) htop (dig_lt _ _)
  obtain ⟨p, rfl⟩ : ∃ p, n = p + 2 := ⟨n - 2, by omega⟩
  rw [show p + 2 - 1 = p + 1 from rfl] at *
  have hda : dig a (p + 1) = a / W64 ^ (p + 1) := by
    unfold dig
    rw [Nat.mod_eq_of_lt]
    rw [Nat.div_lt_iff_lt_mul (W64_pow_pos _), ← Nat.pow_succ']
    exact hX
  have hza : a < W64 ^ (p + 1) * 2 ^ (64 - s) := by
    rw [hda, Nat.div_lt_iff_lt_mul (W64_pow_pos _), Nat.mul_comm] at hs2
    exact hs2
  have HTA := Lib.hid (top_bits a s p hs hza)
  have HTB := Lib.hid (top_bits b s p hs (Nat.lt_of_le_of_lt hle hza))
  have HTL := Lib.hid (top_word a s p hs hza)
  have HLZ := Lib.hid (fun W => c_lz W (dig a (p + 1)) s (dig_lt _ _) hsL)
  have HH : Hid (0 < W64 ^ p * 2 ^ (64 - s)) := Nat.mul_pos (W64_pow_pos _) (Nat.pow_pos (by decide))
  have HAt1 : Hid (∀ W, Below w.heap.size w W → Calls Tryz.prog 90 #[.slice A' m c', .int .i64 ((p : Int) + 2 - 1)] W fun e w' => e = .returned (U (dig b (p + 1))) ∧ w' = W) := by
    intro W hW
    rw [show (p : Int) + 2 - 1 = ((p + 1 : Nat) : Int) by omega]
    refine (c_atN W w.heap.size A' m c' (p + 1) b (h'.below hW) hY).mono ?_
    rintro e w' ⟨h1, h2⟩
    exact ⟨h1, h2.symm⟩
  have HAt2 : Hid (∀ W, Below w.heap.size w W → Calls Tryz.prog 90 #[.slice A' m c', .int .i64 (p : Int)] W fun e w' => e = .returned (U (dig b p)) ∧ w' = W) := by
    intro W hW
    refine (c_atN W w.heap.size A' m c' p b (h'.below hW) hY).mono ?_
    rintro e w' ⟨h1, h2⟩
    exact ⟨h1, h2.symm⟩
  have hmin : min s 64 = s := Nat.min_eq_left (Nat.le_of_lt hs)
  obtain ⟨b1, o1, rfl, hlt1, hc1⟩ := h (by omega)
  have hca := hc1 (p + 1) (by omega)
  have hcb := hc1 p (by omega)
  have hws : IntKind.i64.wrap (64 - (s : Int)) = ((64 - s : Nat) : Int) := by unfold IntKind.wrap; simp [IntKind.bits, IntKind.signed]; omega
  have hws2 : wrap64 (64 - (s : Int)) = ((64 - s : Nat) : Int) := by unfold wrap64; omega
  have hs0 : ¬ (s : Int) < 0 := by omega
  have hs4 : ¬ (((64 - s : Nat) : Int)) < 0 := by omega
  have HS := Lib.hid hs
  have HLE := Lib.hid hle
  generalize hHH : W64 ^ p * 2 ^ (64 - s) = H at *
  obtain ⟨x0, hx0⟩ : ∃ x0, a / H = x0 := ⟨_, rfl⟩
  obtain ⟨y0, hy0⟩ : ∃ y0, b / H = y0 := ⟨_, rfl⟩
  have HX0 : Hid (x0 < W64) := by
    show _ < _
    have := HTL.out.2.2
    rw [← HTL.out.1, hx0] at this
    exact this
  have HY0 : Hid (y0 < W64) := by
    show _ < _
    refine Nat.lt_of_le_of_lt ?_ HX0.out
    rw [← hx0, ← hy0]; exact Nat.div_le_div_right hle
  rw [hx0] at HTA
  rw [hy0] at HTB
  have HSim := Lib.hid (Sim.start a b H hle)
  rw [hx0, hy0] at HSim
  clear HTL
  have hwp1 : IntKind.i64.wrap ((p : Int) + 2 - 1) = (p : Int) + 2 - 1 := by unfold IntKind.wrap; simp [IntKind.bits, IntKind.signed]; omega
  have hwp2 : IntKind.i64.wrap ((p : Int) + 2 - 2) = (p : Int) := by unfold IntKind.wrap; simp [IntKind.bits, IntKind.signed]; omega
  have hwp3 : IntKind.i64.wrap (p : Int) = (p : Int) := by unfold IntKind.wrap; simp [IntKind.bits, IntKind.signed]; omega
  generalize hTT : dig a (p + 1) = T at *
  generalize hT2 : dig a p = T2 at *
  clear hX hY ha0 htop hs hsL hs2 hs3 hda hza hn hm hn2 hle h h' hc1 hHH hTT hT2
  go_enter Tryz.func154, Tryz.ntmps154
  go_wp2_with fail
  have B1 : Below w.heap.size w (w.alloc (.cells #[.int .i64 0, .int .u64 0, .int .u64 0, .int .u64 0, .int .u64 0] 166)) := (Below.refl _ _).alloc (Nat.le_refl _) _
  have hR1 := heap_alloc_new w (.cells #[.int .i64 0, .int .u64 0, .int .u64 0, .int .u64 0, .int .u64 0] 166)
  have hz1 : (w.alloc (.cells #[.int .i64 0, .int .u64 0, .int .u64 0, .int .u64 0, .int .u64 0] 166)).heap.size = w.heap.size + 1 := by simp
  have hca1 := (B1.cell (p := ⟨b1, o1 + (p + 1), none⟩) hlt1).trans hca
  have hcb1 := (B1.cell (p := ⟨b1, o1 + p, none⟩) hlt1).trans hcb
  generalize w.alloc (.cells #[.int .i64 0, .int .u64 0, .int .u64 0, .int .u64 0, .int .u64 0] 166) = w1 at *
  refine (HLZ.out _).mono ?_
  rintro e w' ⟨rfl, rfl⟩
  have hi1 : (0 : Int) ≤ (p : Int) + 2 - 1 := by omega
  have hi2 : (p : Int) + 2 - 1 < (p : Int) + 2 := by omega
  go_wp2_with fail
  go_quiet (fail)
  rw [HTA.out]
  have B2 : Below w.heap.size w (w'.drewN nq) := B1.trans (Below.drewN_ (Below.refl _ _) nq)
  have hR2 : (w'.drewN nq).heap[w.heap.size]? = some (.cells #[.int .i64 0, .int .u64 0, .int .u64 0, .int .u64 0, .int .u64 0] 166 (0, 0)) := hR1
  have hz2 : (w'.drewN nq).heap.size = w.heap.size + 1 := hz1
  clear hca1 hcb1 hR1 hz1 B1
  generalize w'.drewN nq = w2 at *
  go_wp2_with fail
  have HQ1 : Hid (∀ n2, Below w.heap.size w (w2.drewN n2)) := fun n2 => B2.trans (Below.drewN_ (Below.refl _ _) n2)
  go_quiet (first | (go_at_call 90; with_reducible exact Calls.quiet_of_same (HAt1.out _ (HQ1.out _))) | (go_at_call 90; with_reducible exact Calls.quiet_of_same (HAt2.out _ (HQ1.out _))))
  rw [HTB.out]
  go_wp2_with fail
  have B3 : Below w.heap.size w ((w2.drewN nq).alloc (.cells #[.int .i64 0, .int .u64 1, .int .u64 0, .int .u64 0, .int .u64 1] 166)) := (HQ1.out nq).alloc (by show w.heap.size ≤ w2.heap.size; omega) _
  have hR3 : ((w2.drewN nq).alloc (.cells #[.int .i64 0, .int .u64 1, .int .u64 0, .int .u64 0, .int .u64 1] 166)).heap[w.heap.size + 1]? = some (.cells #[.int .i64 0, .int .u64 1, .int .u64 0, .int .u64 0, .int .u64 1] 166 (0, 0)) := by
    have h9 := heap_alloc_new (w2.drewN nq) (.cells #[.int .i64 0, .int .u64 1, .int .u64 0, .int .u64 0, .int .u64 1] 166)
    rw [show (w2.drewN nq).heap.size = w.heap.size + 1 from hz2] at h9
    exact h9
  have hR4 : ((w2.drewN nq).alloc (.cells #[.int .i64 0, .int .u64 1, .int .u64 0, .int .u64 0, .int .u64 1] 166)).heap[w.heap.size]? = some (.cells #[.int .i64 0, .int .u64 0, .int .u64 0, .int .u64 0, .int .u64 0] 166 (0, 0)) :=
    (((Below.refl w2.heap.size w2).alloc (Nat.le_refl _) _).block _ (by omega)).trans hR2
  generalize (w2.drewN nq).alloc (.cells #[.int .i64 0, .int .u64 1, .int .u64 0, .int .u64 0, .int .u64 1] 166) = w3 at *
  clear hwp1 hwp2 hwp3 hi1 hi2 hws hws2 hs0 hs4 hmin HAt1 HAt2 HTA HTB HLZ hca hcb B2 hR2 hz2 HQ1
  go_loopw [7, 8, 10, 11, 12, 13] (fun xv yv _ _ _ _ wr => ∃ cnt x y a0 b0 a1 b1 X Y : Nat, xv = U x ∧ yv = U y ∧ wr.heap[w.heap.size + 1]? = some (.cells #[.int .i64 cnt, U a0, U b0, U a1, U b1] 166 (0, 0)) ∧
    wr.heap[w.heap.size]? = some (.cells #[.int .i64 0, .int .u64 0, .int .u64 0, .int .u64 0, .int .u64 0] 166 (0, 0)) ∧ Hid (Sim a b x0 y0 H (a % H) (b % H) cnt x y a0 b0 a1 b1 X Y) ∧
    Hid (x < W64 ∧ y < W64 ∧ a0 < W64 ∧ b0 < W64 ∧ a1 < W64 ∧ b1 < 4294967296 ∧ cnt ≤ b1 ∧ 1 ≤ b1 ∧ (0 < cnt → 1 ≤ b0)) ∧ Below w.heap.size w wr) (fun _ yv _ _ _ _ _ => (intOf yv).toNat)
  case atStart =>
    exact ⟨0, x0, y0, 1, 0, 0, 1, a, b, rfl, rfl, hR3, hR4, HSim.out, ⟨HX0.out, HY0.out, by decide, by decide, by decide, by omega, by omega, by omega, fun h => absurd h (by omega)⟩, B3⟩
  case round =>
    obtain ⟨cnt, x, y, a0, b0, a1, b1', X, Y, rfl, rfl, hS, hZ, HS9, HB9, hb⟩ := hrel
    clear hR3 hR4 B3 HSim
    have c0 : wr.cell? ⟨w.heap.size + 1, 0, none⟩ = some (.int .i64 cnt) := by rw [cell_of_row _ _ _ _ _ _ hS]; rfl
    have c1 : wr.cell? ⟨w.heap.size + 1, 1, none⟩ = some (U a0) := by rw [cell_of_row _ _ _ _ _ _ hS]; rfl
    have c2 : wr.cell? ⟨w.heap.size + 1, 2, none⟩ = some (U b0) := by rw [cell_of_row _ _ _ _ _ _ hS]; rfl
    have c3 : wr.cell? ⟨w.heap.size + 1, 3, none⟩ = some (U a1) := by rw [cell_of_row _ _ _ _ _ _ hS]; rfl
    have c4 : wr.cell? ⟨w.heap.size + 1, 4, none⟩ = some (U b1') := by rw [cell_of_row _ _ _ _ _ _ hS]; rfl
    have z0 := fun (W : World) (hW : W.heap[w.heap.size]? = wr.heap[w.heap.size]?) (i : Nat) => (show W.frozen? ⟨w.heap.size, i, none⟩ = false by simp [World.frozen?, hW, hZ])
    have zz0 := z0 wr rfl 0
    have zz1 := z0 wr rfl 1
    have zz2 := z0 wr rfl 2
    have zz3 := z0 wr rfl 3
    have zz4 := z0 wr rfl 4
    have s0 := fun (i : Nat) => (show wr.frozen? ⟨w.heap.size + 1, i, none⟩ = false by simp [World.frozen?, hS])
    have ss0 := s0 0
    have ss1 := s0 1
    have ss2 := s0 2
    have ss3 := s0 3
    have ss4 := s0 4
    have d0 : wr.cell? ⟨w.heap.size, 0, none⟩ = some (.int .i64 0) := by rw [cell_of_row _ _ _ _ _ _ hZ]; rfl
    have d1 : wr.cell? ⟨w.heap.size, 1, none⟩ = some (.int .u64 0) := by rw [cell_of_row _ _ _ _ _ _ hZ]; rfl
    have d2 : wr.cell? ⟨w.heap.size, 2, none⟩ = some (.int .u64 0) := by rw [cell_of_row _ _ _ _ _ _ hZ]; rfl
    have d3 : wr.cell? ⟨w.heap.size, 3, none⟩ = some (.int .u64 0) := by rw [cell_of_row _ _ _ _ _ _ hZ]; rfl
    have d4 : wr.cell? ⟨w.heap.size, 4, none⟩ = some (.int .u64 0) := by rw [cell_of_row _ _ _ _ _ _ hZ]; rfl
    by_cases hy : y = 0
    · subst hy
      go_wp2
      exact bodyPost_ret (v := St cnt a0 b0 a1 b1') (results_cell_row Tryz.results154 _ _ w.heap.size 166 _ (0, 0) _ rfl (put5 hZ _ _ _ _ _) Tryz.underlying166 rfl (by rw [info_st]; rfl)) rfl
        ⟨cnt, a0, b0, a1, b1', x, 0, X, Y, H, rfl, HB9.out.2.2.1, HB9.out.2.2.2.1, HB9.out.2.2.2.2.1, Nat.lt_trans HB9.out.2.2.2.2.2.1 (by decide), Nat.lt_of_le_of_lt HB9.out.2.2.2.2.2.2.1 HB9.out.2.2.2.2.2.1, by rw [hx0, hy0]; exact HS9.out, below5 hb _ (Nat.le_refl _) _ _ _ _ _⟩
    · have h1 : ((y : Int) != 0) = true := by rw [bne_iff_ne]; omega
      have h2 : ((y : Int) == 0) = false := by rw [beq_eq_false_iff_ne]; omega
      have HY : Hid (0 < y) := Nat.pos_of_ne_zero hy
      have HBd := Lib.hid (HS9.out.bounds HY.out)
      have hwd : IntKind.u64.wrap ((x : Int) / (y : Int)) = ((x / y : Nat) : Int) := wrapN _ _ (by push_cast; rfl) (Nat.lt_of_le_of_lt (Nat.div_le_self _ _) HB9.out.1)
      have hwr : (x : Int) % (y : Int) = ((x % y : Nat) : Int) := by push_cast; rfl
      have HPr := Lib.hid HS9.out.prod
      have HQ : Hid (1 ≤ x / y) := Nat.div_pos HS9.out.xy HY.out
      have HR : Hid (x % y < y) := Nat.mod_lt _ HY.out
      have HStep := Lib.hid (fun h1 h2 => HS9.out.step (Nat.mod_lt a HH.out) (Nat.mod_lt b HH.out) HY.out h1 h2)
      have hyW : y < W64 := HB9.out.2.1
      generalize x / y = q at *
      generalize x % y = r at *
      go_wp2_with fail
      go_quiet (fail)
      rw [hwr]
      clear hwd hwr
      obtain ⟨qa, hqa⟩ : ∃ qa, q * a1 = qa := ⟨_, rfl⟩
      obtain ⟨qb, hqb⟩ : ∃ qb, q * b1' = qb := ⟨_, rfl⟩
      rw [hqa, hqb] at HBd HStep
      rw [hqb] at HPr
      obtain ⟨a2, ha2⟩ : ∃ a2, a0 + qa = a2 := ⟨_, rfl⟩
      obtain ⟨b2, hb2⟩ : ∃ b2, b0 + qb = b2 := ⟨_, rfl⟩
      rw [ha2, hb2] at HBd HStep
      rw [hb2] at HPr
      have ha2W : a2 < W64 := Nat.lt_of_le_of_lt HBd.out.1 HY0.out
      have hb2W : b2 < W64 := Nat.lt_of_le_of_lt HBd.out.2.1 HX0.out
      have wm1 : IntKind.u64.wrap ((q : Int) * (a1 : Int)) = (qa : Int) := wrapN _ _ (by rw [← hqa]; push_cast; rfl) (by omega)
      have wm2 : IntKind.u64.wrap ((q : Int) * (b1' : Int)) = (qb : Int) := wrapN _ _ (by rw [← hqb]; push_cast; rfl) (by omega)
      have wa1 : IntKind.u64.wrap ((a0 : Int) + (qa : Int)) = (a2 : Int) := wrapN _ _ (by rw [← ha2]; push_cast; rfl) ha2W
      have wa2 : IntKind.u64.wrap ((b0 : Int) + (qb : Int)) = (b2 : Int) := wrapN _ _ (by rw [← hb2]; push_cast; rfl) hb2W
      have HNew : Hid (b2 ≤ r → b2 < 4294967296 ∧ cnt + 1 ≤ b2 ∧ 1 ≤ b2) := by
        intro hbr
        obtain ⟨_, _, _, _, _, h6, h7, h8, h9⟩ := HB9.out
        have e1 : b1' ≤ qb := by rw [← hqb]; exact Nat.le_mul_of_pos_left _ HQ.out
        have e3 : b2 * b2 ≤ x0 := by
          have hr := HR.out
          exact Nat.le_trans (Nat.mul_le_mul_left _ (by omega)) HPr.out
        refine ⟨?_, ?_, by omega⟩
        · rcases Nat.lt_or_ge b2 4294967296 with h | h
          · exact h
          · have := Nat.mul_le_mul h h
            have := HX0.out
            unfold W64 at this
            omega
        · rcases Nat.eq_zero_or_pos cnt with h | h
          · omega
          · have := h9 h
            omega
      clear hqa hqb
      go_wp2_with fail
      go_quiet (fail)
      clear wm1 wm2 wa1 wa2
      rcases Nat.lt_or_ge r b2 with hrb | hrb
      · have t1 : decide ((r : Int) < (b2 : Int)) = true := by simp; omega
        go_wp2
        exact bodyPost_ret (v := St cnt a0 b0 a1 b1') (results_cell_row Tryz.results154 _ _ w.heap.size 166 _ (0, 0) _ rfl (put5 hZ _ _ _ _ _) Tryz.underlying166 rfl (by rw [info_st]; rfl)) rfl
          ⟨cnt, a0, b0, a1, b1', x, y, X, Y, H, rfl, HB9.out.2.2.1, HB9.out.2.2.2.1, HB9.out.2.2.2.2.1, Nat.lt_trans HB9.out.2.2.2.2.2.1 (by decide), Nat.lt_of_le_of_lt HB9.out.2.2.2.2.2.2.1 HB9.out.2.2.2.2.2.1, by rw [hx0, hy0]; exact HS9.out, below5 (Below.drewN_ hb _) _ (Nat.le_refl _) _ _ _ _ _⟩
      · have t1 : decide ((r : Int) < (b2 : Int)) = false := by simp; omega
        have hN := HNew.out hrb
        have hbb := HBd.out.2.2 (by omega)
        obtain ⟨bb, hbb1⟩ : ∃ bb, b1' + b2 = bb := ⟨_, rfl⟩
        obtain ⟨yr, hyr⟩ : ∃ yr, y - r = yr := ⟨_, rfl⟩
        have hrl := HR.out
        have wb : IntKind.u64.wrap ((b1' : Int) + (b2 : Int)) = (bb : Int) := wrapN _ _ (by rw [← hbb1]; push_cast; rfl) (by have := HX0.out; omega)
        have wy : IntKind.u64.wrap ((y : Int) - (r : Int)) = (yr : Int) := wrapN _ _ (by omega) (by omega)
        rcases Nat.lt_or_ge yr bb with hyb | hyb
        · have t2 : decide ((yr : Int) < (bb : Int)) = true := by simp; omega
          clear hbb1 hyr
          go_wp2
          exact bodyPost_ret (v := St cnt a0 b0 a1 b1') (results_cell_row Tryz.results154 _ _ w.heap.size 166 _ (0, 0) _ rfl (put5 hZ _ _ _ _ _) Tryz.underlying166 rfl (by rw [info_st]; rfl)) rfl
            ⟨cnt, a0, b0, a1, b1', x, y, X, Y, H, rfl, HB9.out.2.2.1, HB9.out.2.2.2.1, HB9.out.2.2.2.2.1, Nat.lt_trans HB9.out.2.2.2.2.2.1 (by decide), Nat.lt_of_le_of_lt HB9.out.2.2.2.2.2.2.1 HB9.out.2.2.2.2.2.1, by rw [hx0, hy0]; exact HS9.out, below5 (Below.drewN_ hb _) _ (Nat.le_refl _) _ _ _ _ _⟩
        · have t2 : decide ((yr : Int) < (bb : Int)) = false := by simp; omega
          obtain ⟨C, HS2⟩ := HStep.out hrb (by omega)
          have HS3 := Lib.hid HS2
          have hcw : IntKind.i64.wrap ((cnt : Int) + 1) = (cnt : Int) + 1 := by unfold IntKind.wrap; simp [IntKind.bits, IntKind.signed]; omega
          clear hbb1 hyr HS2
          obtain ⟨_, k2, k3, k4, k5, k6, k7, k8, k9⟩ := HB9.out
          have HB8 : Hid (r < W64 ∧ a1 < W64 ∧ b1' < W64 ∧ 1 ≤ b1') := ⟨by omega, k5, Nat.lt_trans k6 (by decide), k8⟩
          clear k2 k3 k4 k5 k6 k7 k8 k9
          go_wp2
          refine ⟨?_, ?measure⟩
          iterate 80 (first | apply Exists.intro | skip)
          refine ⟨?rel, rfl⟩
          case rel =>
            refine ⟨cnt + 1, y, r, a1, b1', a2, b2, Y, C, rfl, rfl, put5 hS _ _ _ _ _, (put5_other _ (by omega) _ _ _ _ _).trans hZ, HS3.out, ⟨hyW, HB8.out.1, HB8.out.2.1, HB8.out.2.2.1, ha2W, hN.1, hN.2.1, hN.2.2, fun _ => HB8.out.2.2.2⟩, below5 (Below.drewN_ hb _) _ (by omega) _ _ _ _ _⟩
          case measure => simp [intOf]; omega
end Go.Proofs.YtnfncdalneifnaaGreatDoor
