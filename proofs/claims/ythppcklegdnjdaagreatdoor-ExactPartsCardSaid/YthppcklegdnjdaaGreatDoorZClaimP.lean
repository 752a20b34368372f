/- ExactParts: the sum of a list of numbers is that of its parts, wherever it is divided, and that in the opposite order: the law returns true, for whatever pairs and place. Its row lists package-level variables of Go's library, tied to the program's text by the card. -/
import Derived.Test.YthppcklegdnjdaaGreatDoorZPReg
import Derived.Test.YthppcklegdnjdaaGreatDoorTie
import Derived.Test.YthppcklegdnjdaaGreatDoorCards
import Derived.Test.YthppcklegdnjdaaGreatDoorZRow
import Derived.Test.YthppcklegdnjdaaGreatDoorZRing
import Derived.SevenTiedAt

/- ExactParts: the whole walk of the law. -/
section
namespace Go.Proofs.YthppcklegdnjdaaGreatDoor
open Go Go.RowKit Go.Deep

theorem range90 : List.range 90 = [0, 1, 2, 3, 4, 5, 6, 7, 8, 9, 10, 11, 12, 13, 14, 15, 16, 17, 18, 19, 20, 21, 22, 23, 24, 25, 26, 27, 28, 29, 30, 31, 32, 33, 34, 35, 36, 37, 38, 39, 40, 41, 42, 43, 44, 45, 46, 47, 48, 49, 50, 51, 52, 53, 54, 55, 56, 57, 58, 59, 60, 61, 62, 63, 64, 65, 66, 67, 68, 69, 70, 71, 72, 73, 74, 75, 76, 77, 78, 79, 80, 81, 82, 83, 84, 85, 86, 87, 88, 89] := rfl
theorem lit90 (f : Nat → Value) : ((List.range 90).map f).toArray = #[f 0, f 1, f 2, f 3, f 4, f 5, f 6, f 7, f 8, f 9, f 10, f 11, f 12, f 13, f 14, f 15, f 16, f 17, f 18, f 19, f 20, f 21, f 22, f 23, f 24, f 25, f 26, f 27, f 28, f 29, f 30, f 31, f 32, f 33, f 34, f 35, f 36, f 37, f 38, f 39, f 40, f 41, f 42, f 43, f 44, f 45, f 46, f 47, f 48, f 49, f 50, f 51, f 52, f 53, f 54, f 55, f 56, f 57, f 58, f 59, f 60, f 61, f 62, f 63, f 64, f 65, f 66, f 67, f 68, f 69, f 70, f 71, f 72, f 73, f 74, f 75, f 76, f 77, f 78, f 79, f 80, f 81, f 82, f 83, f 84, f 85, f 86, f 87, f 88, f 89] := by rw [range90]; rfl
theorem act_lit90 (a : Act) (h : a.tmps.size = 90) (hd : a.defers = []) : ∃ f : Nat → Value, (∀ t, a.tmps[t]?.getD undef = f t) ∧ a = ⟨#[f 0, f 1, f 2, f 3, f 4, f 5, f 6, f 7, f 8, f 9, f 10, f 11, f 12, f 13, f 14, f 15, f 16, f 17, f 18, f 19, f 20, f 21, f 22, f 23, f 24, f 25, f 26, f 27, f 28, f 29, f 30, f 31, f 32, f 33, f 34, f 35, f 36, f 37, f 38, f 39, f 40, f 41, f 42, f 43, f 44, f 45, f 46, f 47, f 48, f 49, f 50, f 51, f 52, f 53, f 54, f 55, f 56, f 57, f 58, f 59, f 60, f 61, f 62, f 63, f 64, f 65, f 66, f 67, f 68, f 69, f 70, f 71, f 72, f 73, f 74, f 75, f 76, f 77, f 78, f 79, f 80, f 81, f 82, f 83, f 84, f 85, f 86, f 87, f 88, f 89], []⟩ := by
  refine ⟨fun t => a.tmps[t]?.getD undef, fun t => rfl, ?_⟩
  obtain ⟨tm, df⟩ := a
  have h' : tm.size = 90 := h
  have hd' : df = [] := hd
  subst hd'
  have e : tm = ((List.range 90).map fun t => tm[t]?.getD undef).toArray := by
    apply Array.ext
    · simpa using h'
    · intro i h1 h2
      simp [h1]
  exact (congrArg (fun x => (⟨x, []⟩ : Act)) (e.trans (lit90 _)))
theorem dag_of' {ops : Array Oper} (h : (List.range ops.size).all (fun i => (ops[i]?).all fun o => o.after.all fun e => decide (e.on < i)) = true) : ∀ (i : Nat) (o : Oper), ops[i]? = some o → ∀ e : Edge, e ∈ o.after → e.on < i := by
  intro i o ho e he
  have h1 := List.all_eq_true.1 h i (List.mem_range.2 (Array.getElem?_eq_some_iff.1 ho).1)
  rw [ho] at h1
  simp only [Option.all_some, Array.all_eq_true_iff_forall_mem] at h1
  simpa using h1 e he

theorem Pairs.one {w : World} {b o n : Nat} {ts us : Nat → Int} (h : Pairs w (some ⟨b, o, none⟩) n ts us) (k : Nat) (hk : k < n) : Pairs w (some ⟨b, o + k * 2, none⟩) 1 (fun _ => ts k) (fun _ => us k) := by
  obtain ⟨b', o', e, hlt, hc⟩ := h (by omega)
  cases e
  refine fun _ => ⟨b, o + k * 2, rfl, hlt, fun j hj => ?_⟩
  obtain rfl : j = 0 := by omega
  exact hc k hk

theorem Nums.push {B : Nat} {w1 W1 w2 : World} {sl sl' p : Value} {k : Nat} {xs : Nat → Value} {qs : Nat → Rat} {q : Rat} (h : Nums B w1 sl k xs qs) (hb : Below w1.heap.size w1 W1) (hown : w2.ownsRow B 26 1 sl' (k + 1) ((List.range k).map xs ++ [p]))
    (hgr : W1.grownBy w2 sl.ownBlock) (hall : AllIn w2 sl' IsPtr) (hp : IsPtr p) (hu : RatV w1 p q) (hq : RatW q 2) : Nums B w2 sl' (k + 1) (ext xs k p) (ext qs k q) := by
  obtain ⟨h1, h2, h3, h4, h5⟩ := h
  have ha : AllIn W1 sl IsPtr := h2.below h1 hb
  refine ⟨by rw [ext_map]; exact hown, hall, fun j => ?_, fun j hj => ?_, fun j hj => ?_⟩
  · by_cases hjk : j = k
    · subst hjk; rw [ext_same]; exact hp
    · rw [ext_ne _ _ _ _ hjk]; exact h3 j
  · by_cases hjk : j = k
    · subst hjk; rw [ext_same, ext_same]; exact ratV_ptrs (hu.below hb) ha hgr
    · rw [ext_ne _ _ _ _ hjk, ext_ne _ _ _ _ hjk]; exact ratV_ptrs ((h4 j (by omega)).below hb) ha hgr
  · by_cases hjk : j = k
    · subst hjk; rw [ext_same]; exact hq
    · rw [ext_ne _ _ _ _ hjk]; exact h5 j (by omega)
theorem own_alloc {w : World} {base : Nat} (hb : base ≤ w.heap.size) (o : Obj) : base ≤ (w.alloc o).heap.size := by simp; omega
theorem allIn_alloc {w : World} {v : Value} {Pr : Value → Prop} {base : Nat} {e : TypeId} {size n : Nat} {xs : List Value} (h : AllIn w v Pr) (ho : w.ownsRow base e size v n xs) (o : Obj) : AllIn (w.alloc o) v Pr :=
  h.below ho ((Below.refl _ _).alloc (Nat.le_refl _) o)
theorem nil_ptr : ∀ u ∈ (Value.pointer none).cells, IsPtr u := fun u hu => by
  obtain rfl : u = .pointer none := by simpa [Value.cells] using hu
  exact ⟨_, rfl⟩

set_option maxRecDepth 100000 in
set_option maxHeartbeats 8000000 in
theorem l_parts (w : World) (A : Option Addr) (n cp cut : Nat) (ts us : Nat → Int) (h : Pairs w A n ts us) (hcp : n ≤ cp) (hcut : cut ≤ 255)
    (htab : Tab w) (m : Int) (hm : w.cell? ⟨0, 0, none⟩ = some (.int .i64 m)) :
    Calls Tryz.prog 4 #[.slice A n cp, .int .u8 cut] w fun e w' => e = .returned (.bool true) ∧ Below w.heap.size w w' := by
  have HT : Hid (∀ W, Below w.heap.size w W → Tab W) := fun W hw => htab.below hw
  have WK : Hid (∀ W, Below w.heap.size w W → Calls Tryz.prog 6 #[] W fun e w' => e = .returned (.bool true) ∧ Below W.heap.size W w') := fun W hw => c_works W m ((hw.cell (p := ⟨0, 0, none⟩) (ltV_of_cell hm)).trans hm)
  clear hm htab
  by_cases hl : n ≤ 30
  · have i1 : ((30 : Int) < (n : Int)) = False := by simp; omega
    obtain ⟨i0, hi, hz0, hz1, hz2⟩ := info_parts info_ptr
    go_enter Tryz.func4, Tryz.ntmps4
    go_wp2_with fail
    go_loopw [5, 7, 8] (fun sl i _ wr => ∃ (k : Nat) (xs : Nat → Value) (qs : Nat → Rat), k ≤ n ∧ i = .int .i64 k ∧ Hid (Nums w.heap.size wr sl k xs qs) ∧ Hid (Below w.heap.size w wr)) (fun _ i _ _ => n - (intOf i).toNat)
    case atStart => exact ⟨0, fun _ => .pointer none, fun _ => 0, by omega, rfl, ⟨World.ownsRow_nil _ _ _ _, fun g hg => by simp [Value.ownBlock] at hg, fun j => ⟨_, rfl⟩, fun j hj => absurd hj (by omega), fun j hj => absurd hj (by omega)⟩, Below.refl _ _⟩
    case round =>
      obtain ⟨k, xs, qs, hk, rfl, HN, HB⟩ := hrel
      by_cases hlt : k < n
      · obtain ⟨b, o, rfl, hlb, hc⟩ := h (by omega)
        have M := Lib.hid (l_madeB wr (some ⟨b, o + k * 2, none⟩) 1 (cp - k) _ _ ((h.below HB.out).one k hlt) (by omega))
        have H := Lib.hid h
        have e1 : (cp = k) = False := by simp; omega
        clear hc h
        go_wp2_with fail
        refine M.out.mono ?_
        rintro e w1 ⟨u, q, rfl, hu, hq, hb1⟩
        obtain ⟨bu, hbu⟩ : ∃ a, u = .pointer (some ⟨a, 0, none⟩) := by
          obtain ⟨b9, _, _, h9, _⟩ := hu
          exact ⟨b9, h9⟩
        subst hbu
        have N1 : Hid (Nums w.heap.size w1 u5 k xs qs) := HN.out.below hb1
        have B1 : Hid (Below w.heap.size w w1) := HB.out.trans (hb1.mono HB.out.size)
        have U1 := Lib.hid hu
        have Q1 : Hid (RatW q 2) := hq
        clear hu hq hb1 HN HB M
        go_wp2_with (at_builtin; refine wpList_append_all _ rfl _ _ 39 rfl w.heap.size 26 i0 (.pointer none) 1 8 Tryz.underlying39 hi hz0 hz1 hz2 rfl (by decide) _ _ _ rfl (N1.out.1.alloc _) ⟨w1.heap.size, 0, none⟩ 1 1 [.pointer (some ⟨bu, 0, none⟩)] rfl rfl (cell_one_new _ _ _) (by intro u hu; simp at hu; subst hu; rfl) ?c3 ?c4 ?c5 IsPtr nil_ptr ?c7 (allIn_alloc N1.out.2.1 N1.out.1 _) ?_)
        case c3 => unfold maxLen; omega
        case c4 => omega
        case c5 => exact own_alloc B1.out.size _
        case c7 => intro u hu; simp at hu; subst hu; exact ⟨_, rfl⟩
        intro v' w2 hown hgr hall
        have N2 : Hid (Nums w.heap.size w2 v' (k + 1) (ext xs k (.pointer (some ⟨bu, 0, none⟩))) (ext qs k q)) := N1.out.push ((Below.refl _ _).alloc (Nat.le_refl _) _) hown hgr hall ⟨_, rfl⟩ U1.out Q1.out
        have B2 : Hid (Below w.heap.size w w2) := (B1.out.alloc B1.out.size _).grown hgr (own_alloc B1.out.size _) (fun k hk => (N1.out.1.lt k hk).1)
        clear hown hgr hall N1 B1 U1 Q1
        go_wp2
        go_roundw
        case rel => exact ⟨k + 1, _, _, by omega, by go_num, N2, B2⟩
        case measure => simp [intOf]; omega
      · obtain rfl : k = n := by omega
        clear h hlt
        have B0 := HB
        obtain ⟨X, c, rfl, hc1, hc0, hcell⟩ := ownsRow_slice HN.out.1
        have HA : Hid (∀ W, Below wr.heap.size wr W → ∀ j, j < k → ∃ b o, X = some ⟨b, o, none⟩ ∧ b < W.heap.size ∧ W.cell? ⟨b, o + j, none⟩ = some (xs j)) := by
          intro W hW j hj
          cases X with
          | none => have := (hc0 rfl).1; omega
          | some a =>
            obtain ⟨g, o, sp⟩ := a
            obtain ⟨rfl, rfl, _, hg, hce⟩ := hcell g o sp rfl
            exact ⟨g, 0, rfl, Nat.lt_of_lt_of_le hg hW.size, by rw [Nat.zero_add, hW.cell (p := ⟨g, j, none⟩) hg]; exact hce j hj⟩
        have HV : Hid (∀ W, Below wr.heap.size wr W → ∀ j, j < k → RatV W (xs j) (qs j)) := fun W hW j hj => (HN.out.2.2.2.1 j hj).below hW
        have HP : Hid (∀ j, IsPtr (xs j)) := HN.out.2.2.1
        have HQ : Hid (∀ j, j < k → RatW (qs j) 2) := HN.out.2.2.2.2
        clear HN hcell
        generalize wr = wa at *
        go_wp2_with fail
        go_loopw [6, 9] (fun bk i wr => ∃ (t : Nat), t ≤ k ∧ i = .int .i64 (((k - t : Nat) : Int) - 1) ∧ Hid (wr.ownsRow wa.heap.size 26 1 bk t ((List.range t).map fun j => xs (k - 1 - j))) ∧ Hid (Below wa.heap.size wa wr)) (fun _ i _ => (intOf i + 1).toNat)
        case atStart => exact ⟨0, by omega, rfl, World.ownsRow_nil _ _ _ _, Below.refl _ _⟩
        case round =>
          obtain ⟨t, ht, rfl, HO, HB⟩ := hrel
          by_cases hlt : t < k
          · obtain ⟨g, o, rfl, hg, hce⟩ := HA.out _ HB.out (k - 1 - t) (by omega)
            obtain ⟨p, hp⟩ := HP.out (k - 1 - t)
            have HX : Hid ((List.range t).map (fun j => xs (k - 1 - j)) ++ [.pointer p] = (List.range (t + 1)).map fun j => xs (k - 1 - j)) := by
              show _ = _
              rw [List.range_succ, List.map_append, List.map_singleton, hp]
            rw [hp] at hce
            have e2 : ((k - t : Nat) : Int) - 1 = ((k - 1 - t : Nat) : Int) := by omega
            have hlt2 : k - 1 - t < k := by omega
            rw [e2]
            generalize hs : k - 1 - t = s at *
            go_wp2_with (at_builtin; refine wpList_append_own _ rfl _ _ 39 rfl wa.heap.size 26 i0 (.pointer none) 1 8 Tryz.underlying39 hi hz0 hz1 hz2 rfl (by decide) _ _ _ rfl (HO.out.alloc _) ⟨wr.heap.size, 0, none⟩ 1 1 [.pointer p] rfl rfl (cell_one_new _ _ _) (by intro u hu; simp at hu; subst hu; rfl) ?d3 ?d4 ?d5 ?_)
            case d3 => unfold maxLen; omega
            case d4 => omega
            case d5 => exact own_alloc HB.out.size _
            intro v' w2 hown hgr _
            rw [HX.out] at hown
            have B2 : Hid (Below wa.heap.size wa w2) := (HB.out.alloc HB.out.size _).grown hgr (own_alloc HB.out.size _) (fun k hk => (HO.out.lt k hk).1)
            have O2 := Lib.hid hown
            clear hown hgr HX HO HB hce
            go_wp2
            go_roundw
            case rel => exact ⟨t + 1, by omega, by rw [show k - (t + 1) = s by omega], O2, B2⟩
            case measure => simp [intOf]
          · obtain rfl : t = k := by omega
            have e3 : ((t - t : Nat) : Int) - 1 = -1 := by omega
            rw [e3]
            obtain ⟨Y, c', rfl, hc1', hc0', hcell'⟩ := ownsRow_slice HO.out
            have HA2 : Hid (∀ W, Below wr.heap.size wr W → ∀ j, j < t → ∃ b o, Y = some ⟨b, o, none⟩ ∧ b < W.heap.size ∧ W.cell? ⟨b, o + j, none⟩ = some (xs (t - 1 - j))) := by
              intro W hW j hj
              cases Y with
              | none => have := (hc0' rfl).1; omega
              | some a =>
                obtain ⟨g, o, sp⟩ := a
                obtain ⟨rfl, rfl, _, hg, hce⟩ := hcell' g o sp rfl
                exact ⟨g, 0, rfl, Nat.lt_of_lt_of_le hg hW.size, by rw [Nat.zero_add, hW.cell (p := ⟨g, j, none⟩) hg]; exact hce j hj⟩
            clear HO hcell'
            generalize wr = wb at *
            have hrem : ((cut : Int) % ((t : Int) + 1)) = ((cut % (t + 1) : Nat) : Int) := by push_cast; rfl
            have hr1 : cut % (t + 1) ≤ t := Nat.le_of_lt_succ (Nat.mod_lt _ (Nat.succ_pos t))
            have B1 : Hid (Below wa.heap.size wa wb) := HB
            have D1 : Hid (∀ W, Below wb.heap.size wb W → Below wa.heap.size wa W) := fun W hW => btr HB.out hW
            have VS : Hid (∀ W, Below wb.heap.size wb W → Calls Tryz.prog 14 #[.slice X t c] W (RatVRet W (sumQ qs t))) := fun W hW =>
              v_Sum W X t c 2 xs qs HP.out (HA.out W (D1.out W hW)) (HV.out W (D1.out W hW)) HQ.out (by omega) (by omega)
            have VB : Hid (∀ W, Below wb.heap.size wb W → Calls Tryz.prog 14 #[.slice Y t c'] W (RatVRet W (sumQ qs t))) := fun W hW => by
              have h9 := v_Sum W Y t c' 2 (fun j => xs (t - 1 - j)) (fun j => qs (t - 1 - j)) (fun j => HP.out _) (HA2.out W hW) (fun j _ => HV.out W (D1.out W hW) _ (by omega)) (fun j hj => HQ.out _ (by omega)) (by omega) (by omega)
              rw [sumQ_rev] at h9
              exact h9
            have KS : Hid (RatW (sumQ qs t) 91) := (sumQ_w qs 2 t HQ.out t (Nat.le_refl _)).mono (by omega)
            clear HB
            go_wp2_with fail
            rw [hrem]
            generalize cut % (t + 1) = d at *
            refine (VS.out _ (Below.refl _ _)).mono ?_
            rintro e w1 ⟨u1, rfl, hu1, b1⟩
            obtain ⟨bx, hbx⟩ : ∃ a, u1 = .pointer (some ⟨a, 0, none⟩) := by
              obtain ⟨b9, _, _, h9, _⟩ := hu1
              exact ⟨b9, h9⟩
            subst hbx
            have U1 : Hid (∀ W, Below w1.heap.size w1 W → RatV W (.pointer (some ⟨bx, 0, none⟩)) (sumQ qs t)) := fun W hW => hu1.below hW
            have G1 : Hid (Below wb.heap.size wb w1) := b1
            clear hu1 b1
            obtain ⟨X1, X2, hs1, hs2, h20, hparts⟩ := slice_parts X t c d hr1 hc1 hc0
            have HPt : Hid (∀ W, Below w1.heap.size w1 W → (∀ j, j < d → ∃ b o, X1 = some ⟨b, o, none⟩ ∧ b < W.heap.size ∧ W.cell? ⟨b, o + j, none⟩ = some (xs j)) ∧ (∀ j, j < t - d → ∃ b o, X2 = some ⟨b, o, none⟩ ∧ b < W.heap.size ∧ W.cell? ⟨b, o + j, none⟩ = some (xs (d + j)))) := fun W hW => hparts W xs (HA.out W (D1.out W (btr G1.out hW)))
            have HVt : Hid (∀ W, Below w1.heap.size w1 W → ∀ j, j < t → RatV W (xs j) (qs j)) := fun W hW => HV.out W (D1.out W (btr G1.out hW))
            have T1 : Hid (∀ W, Below w1.heap.size w1 W → Tab W) := fun W hW => HT.out W (btr B0.out (D1.out W (btr G1.out hW)))
            have W1 : Hid (∀ W, Below w1.heap.size w1 W → Below w.heap.size w W) := fun W hW => btr B0.out (D1.out W (btr G1.out hW))
            have K1 : Hid (RatW (sumQ qs d) 91) := (sumQ_w qs 2 t HQ.out d hr1).mono (by omega)
            have K2 : Hid (RatW (sumQ (fun j => qs (d + j)) (t - d)) 91) := (sumQ_w (fun j => qs (d + j)) 2 (t - d) (fun j hj => HQ.out _ (by omega)) (t - d) (Nat.le_refl _)).mono (by omega)
            have HS : Hid (sumQ qs d + sumQ (fun j => qs (d + j)) (t - d) = sumQ qs t) := sumQ_cut qs d t hr1
            clear hparts
            go_wp2_with fail
            rename_i K4 hK4
            refine r_parts (nt := 90) (t := t) (c := c) (c' := c') (d := d) (m := t - d) (bx := bx) (X := X) (Y := Y) (X1 := X1) (X2 := X2) (S := sumQ qs t) (s1 := sumQ qs d) (s2 := sumQ (fun j => qs (d + j)) (t - d)) (xs := fun j => xs (d + j)) rfl rfl (by omega) (by kernel_rfl) (dag_of' (by kernel_rfl))
              rfl rfl rfl
              rfl rfl rfl
              rfl rfl rfl (by kernel_rfl)
              rfl rfl rfl (by kernel_rfl) (by kernel_rfl)
              rfl rfl rfl (by kernel_rfl)
              rfl rfl rfl (by kernel_rfl)
              rfl rfl rfl (by kernel_rfl)
              rfl rfl rfl (by kernel_rfl)
              rfl rfl rfl (by kernel_rfl) (by kernel_rfl) (by kernel_rfl)
              rfl rfl rfl (by kernel_rfl) (by kernel_rfl)
              rfl rfl rfl (by kernel_rfl)
              rfl rfl rfl (by kernel_rfl)
              rfl rfl rfl (by kernel_rfl) (by kernel_rfl) (by kernel_rfl)
              rfl rfl rfl (by kernel_rfl) (by kernel_rfl)
              rfl rfl rfl (by kernel_rfl) (by kernel_rfl) (by kernel_rfl)
              rfl rfl rfl (by kernel_rfl) (by kernel_rfl) (by kernel_rfl)
              rfl rfl rfl (by kernel_rfl) (by kernel_rfl)
              rfl rfl rfl (by kernel_rfl)
              rfl rfl rfl (by kernel_rfl)
              rfl rfl rfl (by kernel_rfl)
              rfl rfl rfl (by kernel_rfl)
              rfl rfl rfl (by kernel_rfl) (by kernel_rfl) (by kernel_rfl)
              rfl rfl rfl (by kernel_rfl) (by kernel_rfl)
              rfl rfl rfl (by kernel_rfl) (by kernel_rfl)
              rfl rfl rfl (by kernel_rfl)
              rfl rfl rfl (by kernel_rfl)
              rfl rfl rfl (by kernel_rfl) (by kernel_rfl) (by kernel_rfl)
              rfl rfl rfl (by kernel_rfl) (by kernel_rfl) (by kernel_rfl)
              rfl rfl rfl (by kernel_rfl) (by kernel_rfl)
              rfl rfl rfl (by kernel_rfl) (by kernel_rfl) (by kernel_rfl)
              rfl rfl rfl (by kernel_rfl) (by kernel_rfl)
              rfl rfl rfl (by kernel_rfl)
              rfl rfl rfl (by kernel_rfl)
              rfl rfl rfl (by kernel_rfl) (by kernel_rfl)
              rfl rfl rfl (by kernel_rfl)
              rfl rfl rfl rfl hs1 hs2 h20 (by omega) (fun W hW => (HPt.out W hW).2)
              (fun W hW => VB.out W (btr G1.out hW))
              (fun W hW => v_Sum W X1 d c 2 xs qs HP.out (HPt.out W hW).1 (fun j hj => HVt.out W hW j (by omega)) (fun j hj => HQ.out j (by omega)) (by omega) (by omega))
              (fun W hW => v_Sum W X2 (t - d) (c - d) 2 (fun j => xs (d + j)) (fun j => qs (d + j)) (fun j => HP.out _) (HPt.out W hW).2 (fun j hj => HVt.out W hW _ (by omega)) (fun j hj => HQ.out _ (by omega)) (by omega) (by omega))
              ?V3 (fun W x y hx hy => HS.out ▸ v_Add W x y _ _ hx hy (K1.out.mono (by omega)) (K2.out.mono (by omega)))
              (fun W y hW hy => l_equal W _ y (sumQ qs t) (U1.out W hW) hy (KS.out.mono (by omega)) (T1.out W hW))
              (fun W hW => WK.out W (W1.out W hW)) ?done
            case V3 =>
              intro W A9 c9 u hW hu hA9
              have h9 := v_Sum W A9 (t - d + 1) c9 91 (fun j => if j = 0 then u else xs (d + (j - 1))) (fun j => if j = 0 then sumQ qs d else qs (d + (j - 1)))
                (fun j => by
                  by_cases hj : j = 0
                  · rw [if_pos hj]
                    obtain ⟨b9, h9⟩ := ratV_isPtr hu
                    exact ⟨_, h9⟩
                  · rw [if_neg hj]; exact HP.out _) hA9
                (fun j hj => by
                  by_cases h0 : j = 0
                  · rw [if_pos h0, if_pos h0]; exact hu
                  · rw [if_neg h0, if_neg h0]; exact HVt.out W hW _ (by omega))
                (fun j hj => by
                  by_cases h0 : j = 0
                  · rw [if_pos h0]; exact K1.out
                  · rw [if_neg h0]; exact (HQ.out _ (by omega)).mono (by omega)) (by have : (t - d + 1) * (91 + 1) ≤ 31 * 92 := Nat.mul_le_mul (by omega) (Nat.le_refl _); omega) (by omega)
              rw [sumQ_front] at h9
              simp only [if_true, Nat.add_one_ne_zero, if_false, Nat.add_sub_cancel] at h9
              rw [HS.out] at h9
              exact h9
            case done =>
              intro a w5 hn5 hd5 B5 v4
              refine hK4 a w5 ?_
              have v4' : a.tmps[4]?.getD undef = .bool true := v4
              obtain ⟨g, hg, ha⟩ := act_lit90 a hn5 hd5
              rw [hg] at v4'
              subst ha
              rw [v4']
              have C5 := W1.out _ B5
              clear hg hn5 hd5 v4 B5
              go_wp2
              go_ret
              exact ⟨rfl, C5⟩
  · go_enter Tryz.func4, Tryz.ntmps4
    have k1 : (30 : Int) < (n : Int) := by omega
    go_wp2_with fail
    refine (WK.out _ (Below.refl _ _)).mono ?_
    rintro e w1 ⟨rfl, hb⟩
    go_wp2
    go_ret
    exact ⟨rfl, hb⟩
end Go.Proofs.YthppcklegdnjdaaGreatDoor
end

/- ExactParts: the sum of a list of numbers is that of its parts, wherever it is divided, and that in the opposite order: the law returns true, for whatever pairs and place. Its row lists package-level variables of Go's library, tied to the program's text by the card. -/
section
namespace Go.Proofs.YthppcklegdnjdaaGreatDoor
open Go.ChangeShapes Go.WideShapes Go.ChangeAt Go.RowKit

theorem slice_cap {H : Type} {enc : TypeId × Value → H} {P : Program} {w : World} {base : Nat} {spare : Nat → Bool} {held : Bool} {t e : TypeId} {fuel : Nat} {A : Option Addr} {n cap : Nat} {x : DataW H × List MemPlace} (ht : P.underlying t = some (.slice e))
    (h : DataW.trod enc P w base spare held fuel t [.slice A n cap] = some x) : n ≤ cap := by
  rcases DataW.trod_slice ht h with ⟨h0, _⟩ | ⟨a, len, cap', elems, rest, m, _, hcs, _, hb, hl, _⟩
  · obtain ⟨rfl, rfl, rfl⟩ : A = none ∧ n = 0 ∧ cap = 0 := by simpa using h0
    exact Nat.le_refl _
  · obtain ⟨rfl, rfl, rfl⟩ : A = some a ∧ n = len ∧ cap = cap' := by simpa using hcs
    exact hl
theorem wf_u8 {a : Int} (h : (Lit.int .u8 a).wf = true) : 0 ≤ a ∧ a ≤ 255 := by
  have h1 : IntKind.u8.min = 0 := rfl
  have h2 : IntKind.u8.max = 255 := rfl
  simp [Lit.wf, h1, h2] at h
  omega
set_option maxRecDepth 100000 in
theorem parts_lifted (os : Os) (started : os.Started) (H : Type) (enc : TypeId × Value → H) :
    ReturnsInHanded {} Tryz.checked os 4 .any (fun w args => (Rows.exactPartsSpec.pre enc Tryz.prog Tryz.f4 [] false w args ∧ laidMetH Tryz.prog Rows.exactPartsRow.laid w) ∧ sizedMet enc Tryz.prog Tryz.f4 (OpenSpec.ofChange Rows.exactPartsSpec) false w args)
      (Rows.exactPartsSpec.post enc Tryz.prog Tryz.f4 false true false false) := by
  refine handed_laid_shaped (C := Tryz.checked) (X := fun w _ => laidMetH Tryz.prog Rows.exactPartsRow.laid w) (fun _ _ _ hh h => h.of_heap hh) own started (by kernel_rfl) Tryz.func4
    (ChangeSpec.witness_shaped (enc := enc) (C := Tryz.checked) (os := os) (X := fun w _ => laidMetH Tryz.prog Rows.exactPartsRow.laid w) false (World.laidAll Tryz.prog os Rows.exactPartsRow.laid) #[.slice none 0 0, .int .u8 0] 8 (World.laidAll_os _ _ _)
      (World.shaped_of_ZipB (by kernel_rfl) (by kernel_rfl)) (by kernel_rfl) (by kernel_rfl) (by kernel_rfl)
      (by rw [MakeChecks.laidMetH_plain _ _ _ (by kernel_rfl)]; exact laidMet_laidAll _ (by kernel_rfl) (by kernel_rfl))) ?_
  intro W base args ds gs before hval0 hW hlaid hsh
  have hval : ∀ (j : Nat) t v, Tryz.f4.params[j]? = some t → args[j]? = some v → Value.okWide Tryz.prog W .any base t v := hval0
  have htab : Tab W := by
    rw [MakeChecks.laidMetH_plain _ _ _ (by kernel_rfl)] at hlaid
    exact tab_of hlaid
  have hW' := hW
  obtain ⟨p, q, hA0, hV, rfl, _, _⟩ := hW
  have hA : DataW.TrodAll enc Tryz.prog W 0 (fun _ => true) true Tryz.f4.params.toList args.toList ds p := hA0
  rw [Tryz.params4] at hA hval
  obtain ⟨v0, v1, d0, d1, p0, p1, rfl, rfl, rfl, h0, h1⟩ := trodAll_two hA
  obtain ⟨rfl, rfl⟩ := trodVars_none hV
  obtain ⟨A, n1, c1, rfl⟩ := okWide_slice Tryz.underlying22 (hval 0 22 v0 rfl rfl)
  obtain ⟨a, rfl, rfl, rfl, wa⟩ := open_int Tryz.underlying5 (hval 1 5 v1 rfl rfl) h1
  clear hA0 hval0
  simp only [List.append_nil] at hW'
  obtain ⟨m, hm⟩ := maxLen_cell hsh
  have hlt0 : ∀ x ∈ p0, x.block < W.heap.size := fun x hx => hW'.lt x (by simp [hx])
  have k0 := h0
  obtain ⟨_, f0⟩ := h0
  obtain ⟨t1, s1, P1⟩ := open_pairs Tryz.underlying22 Tryz.underlying60 Tryz.underlying2 cellsPair cellsI64 f0
  have hcap := slice_cap Tryz.underlying22 f0
  obtain ⟨cut, hcut⟩ : ∃ n : Nat, a = (n : Int) := ⟨a.toNat, by have := (wf_u8 wa).1; omega⟩
  subst hcut
  have ha := (wf_u8 wa).2
  refine (l_parts W A n1 c1 cut t1 s1 P1 hcap (by omega) htab m hm).mono fun e W' ⟨he, hb⟩ => ?_
  subst he
  have tr := fun {v : Value} {d : DataW H} {ps : List MemPlace} (h : DataW.Trod enc Tryz.prog W 0 (fun _ => true) true 22 v d ps) (hlt : ∀ x ∈ ps, x.block < W.heap.size) =>
    Below.trod laidOut' (t := 22) (by kernel_rfl) (of_decide_eq_true (by kernel_rfl)) h hb hlt
  exact ⟨_, rfl, ⟨_, _, _, [], _, [], hW', trodAll_mk1 (shut_bool Tryz.underlying4 _), trodAll_mk2 (tr k0 hlt0) (shut_int Tryz.underlying5 wa), rfl, hb.frame _, fun h => by cases h⟩⟩

theorem parts_row : Rows.ExactPartsSaid :=
  OpenClaim.holds_of_wide 4 Tryz.f4 rfl rfl rfl rfl rfl rfl rfl ⟨rfl, rfl, rfl, rfl, rfl⟩ rfl rfl rfl rfl rfl (by kernel_rfl) Tryz.func4 (by kernel_rfl)
    (of_decide_eq_true (by kernel_rfl)) (by unfold Func.isWrapper; first | (rw [if_pos (by decide +kernel)]; kernel_rfl) | (rw [if_neg (by decide +kernel)]; exact ⟨rfl, rfl⟩))
    (fun os started H enc _ => parts_lifted os started H enc)

theorem parts_card : Rows.ExactPartsCardSaid :=
  Claim7.holds_tied_plain_at .later [] Rows.exactPartsCard.laidKinds true Rows.exactPartsCard.stood.harness true
    parts_row (fun _ h => by cases h) (by kernel_rfl) (fun _ h => by cases h) exactParts_row_tie rfl ⟨rfl, rfl⟩ (by kernel_rfl) rfl
    (fun f fn hf hfn => by
      obtain rfl : f = 4 := Option.some.inj ((show Tryz.prog.funcNamed "tesseract/tesseractlaw01.ExactParts" = some 4 by kernel_rfl).symm.trans hf) |>.symm
      obtain rfl : fn = Tryz.f4 := (Option.some.inj (Tryz.func4.symm.trans hfn)).symm
      exact ⟨by kernel_rfl, fun j t ht => by
        rw [Tryz.params4] at ht
        have hin : t ∈ [22, 5] := by have := Array.mem_of_getElem? ht; simpa using this
        have hall : ([22, 5].all fun u => !Tryz.prog.wantsStandIn u) = true := by kernel_rfl
        exact (show Tryz.prog.wantsStandIn t = false by simpa using List.all_eq_true.1 hall t hin)⟩)
    (by kernel_rfl)
end Go.Proofs.YthppcklegdnjdaaGreatDoor
end
