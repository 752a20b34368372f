/- The core of a chunk. -/
import Derived.Test.YtogmbehomilalaaGreatDoorZSpG
namespace Go.Proofs.YtogmbehomilalaaGreatDoor
open Go Go.RowKit Go.Deep

theorem quo_i {a b : Int} (h1 : 0 ≤ a) (h2 : a ≤ 4611686018427387904) (h3 : 1 ≤ b) : IntKind.i64.wrap ((IntKind.i64.wrap a).tdiv b) = a / b := by
  rw [w64 (n := a) (by omega) (by omega), Int.tdiv_eq_ediv_of_nonneg h1]
  have e1 : 0 ≤ a / b := Int.ediv_nonneg h1 (by omega)
  have e2 : a / b ≤ a := Int.ediv_le_self _ h1
  exact w64 (by omega) (by omega)
/-- The number of the last chunk along a dimension. -/
def lcZ (lo hi sd : Int) : Int := (lastZ hi - lo) / sd
set_option maxRecDepth 100000 in
set_option maxHeartbeats 2000000 in
theorem s_lastChunk (s : ByteArray) (lo hi sd : Int) (w : World) (h1 : -1073741824 ≤ lo) (h2 : lo ≤ hi) (h3 : lo ≤ 1073741824) (h4 : 1 ≤ sd) (h5 : sd ≤ 64) : Calls Tryz.prog 59 #[DimV s lo hi, .int .i64 sd] w fun e w' => e = .returned (.int .i64 (lcZ lo hi sd)) ∧ Below w.heap.size w w' := by
  have HL := Lib.hid (s_last s lo hi)
  have hb := last_bound h2 h3
  have e1 : lcZ lo hi sd = (lastZ hi - lo) / sd := rfl
  have KB := Lib.hid (dim_box w s lo hi)
  have HB : Hid (Below w.heap.size w (w.alloc (.cells #[.string s, .int .i64 lo, .int .i64 hi] 57))) := (Below.refl _ _).alloc (Nat.le_refl _) _
  rw [e1]
  clear e1
  generalize lastZ hi = L at *
  have hq0 : (sd == 0) = false := by rw [beq_eq_false_iff_ne]; omega
  have hq1 : ¬ sd = 0 := by omega
  go_enter Tryz.func59, Tryz.ntmps59
  go_wp2_with fail
  generalize w.alloc (.cells #[.string s, .int .i64 lo, .int .i64 hi] 57) = W0 at *
  have B0d : Below W0.heap.size W0 W0.drew := Below.drew (Below.refl _ _)
  go_region_held3 (fun W => W.cell? ⟨w.heap.size, 0, none⟩ = some (.string s) ∧ W.cell? ⟨w.heap.size, 1, none⟩ = some (.int .i64 lo) ∧ W.cell? ⟨w.heap.size, 2, none⟩ = some (.int .i64 hi))
    (first | exact KB.out _ B1 | exact KB.out _ B0d | exact KB.out _ (Below.refl _ _))
    (first
      | (go_at_call 62; refine (HL.out _).mono ?_; rintro e w1 ⟨rfl, hb1⟩; have B1 : Below W0.heap.size W0 w1 := st B0d hb1))
  all_goals
    go_wp2
    go_ret
    exact ⟨i64_i (quo_i (by omega) (by omega) h4), st HB.out B1⟩

abbrev BoxV (l h : Option Addr) (n m c d : Nat) : Value := .agg #[.slice l n c, .slice h m d]
/-- Are the first k numbers those of chunks? -/
def cinTo (lo hi sd c : Nat → Int) : Nat → Bool
  | 0 => true
  | k + 1 => cinTo lo hi sd c k && decide (0 ≤ c k ∧ c k ≤ lcZ (lo k) (hi k) (sd k))
theorem cinTo_ok {lo hi sd c : Nat → Int} {n : Nat} (h : cinTo lo hi sd c n = true) : ∀ k, k < n → 0 ≤ c k ∧ c k ≤ lcZ (lo k) (hi k) (sd k) := by
  induction n with
  | zero => exact fun k hk => absurd hk (by omega)
  | succ n ih =>
    rw [cinTo, Bool.and_eq_true, decide_eq_true_eq] at h
    intro k hk
    by_cases e : k = n
    · rw [e]; exact h.2
    · exact ih h.1 k (by omega)
noncomputable def coreE (nm : Nat → ByteArray) (lo hi : Nat → Int) (n : Nat) (sd ov : Nat → Int) (s o : Nat) (ord tile form codec : Int) (c : Nat → Int) (m : Nat) : Int :=
  if layE nm lo hi n sd ov s o ord tile form codec ≠ 0 then layE nm lo hi n sd ov s o ord tile form codec else if m ≠ n then 13 else rangeE (cinTo lo hi sd c n)
def coreLo (lo sd c : Nat → Int) (k : Nat) : Int := lo k + c k * sd k
def coreHi (lo hi sd c : Nat → Int) (k : Nat) : Int := min (lo k + c k * sd k + sd k - 1) (lastZ (hi k))
theorem core_zero {nm : Nat → ByteArray} {lo hi sd ov : Nat → Int} {n s o : Nat} {ord tile form codec : Int} {c : Nat → Int} {m : Nat} (h : coreE nm lo hi n sd ov s o ord tile form codec c m = 0) :
    layE nm lo hi n sd ov s o ord tile form codec = 0 ∧ m = n ∧ cinTo lo hi sd c n = true := by
  unfold coreE at h
  by_cases h0 : layE nm lo hi n sd ov s o ord tile form codec = 0
  · rw [if_neg (by rw [h0]; simp)] at h
    by_cases h1 : m = n
    · rw [if_neg (by omega)] at h
      refine ⟨h0, h1, ?_⟩
      cases h2 : cinTo lo hi sd c n
      · rw [h2] at h; exact absurd h (by decide)
      · rfl
    · rw [if_pos h1] at h; exact absurd h (by decide)
  · rw [if_pos h0] at h; exact absurd h h0
/-- What holds of the dimensions and the layout where the layout has no error. -/
theorem lay_facts {nm : Nat → ByteArray} {lo hi sd ov : Nat → Int} {n s o : Nat} {ord tile form codec : Int} (h : layE nm lo hi n sd ov s o ord tile form codec = 0) :
    s = n ∧ o = n ∧ 1 ≤ n ∧ n ≤ 4 ∧ ∀ k, k < n → -1073741824 ≤ lo k ∧ lo k ≤ 1073741824 ∧ lo k ≤ hi k ∧ lo k ≤ lastZ (hi k) ∧ lastZ (hi k) ≤ 1073741824 ∧ 1 ≤ sd k ∧ sd k ≤ 64 ∧ 0 ≤ ov k ∧ ov k ≤ 16 ∧ ov k ≤ sd k := by
  obtain ⟨h4, h5, h6, h7⟩ := lay_zero h
  obtain ⟨a1, a2, a3⟩ := dimsZ_ok h4
  refine ⟨h5, h6, a1, a2, fun k hk => ?_⟩
  have b1 := a3 k hk
  have b3 := layTo_ok h7 k hk
  have b4 := last_bound b1.2.2.1 b1.2.1
  omega
theorem mul_chunk {c s L : Int} (h1 : 0 ≤ c) (h2 : c ≤ L / s) (h3 : 1 ≤ s) : 0 ≤ c * s ∧ c * s ≤ L := by
  refine ⟨Int.mul_nonneg h1 (by omega), ?_⟩
  have e1 := Int.mul_le_mul_of_nonneg_right h2 (by omega : 0 ≤ s)
  have e2 := Int.ediv_mul_le L (by omega : s ≠ 0)
  omega

theorem put2 {W : World} {r : Nat} (h : W.heap[r]? = some (.cells #[.slice none 0 0, .slice none 0 0] 45 (0, 0))) (a b : Value) :
    ((W.setCell ⟨r, 0, none⟩ a).setCell ⟨r, 1, none⟩ b).heap[r]? = some (.cells #[a, b] 45 (0, 0)) := by
  simp [World.setCell, Array.getElem?_modify, h]
theorem info_box : (Tryz.prog.info? 45).map (·.size) = some 2 := by kernel_rfl
theorem box_at {W : World} {r : Nat} (h : W.heap[r]? = some (.cells #[.slice none 0 0, .slice none 0 0] 45 (0, 0))) : W.cell? ⟨r, 0, none⟩ = some (.slice none 0 0) ∧ W.cell? ⟨r, 1, none⟩ = some (.slice none 0 0) ∧ W.frozen? ⟨r, 0, none⟩ = false ∧ W.frozen? ⟨r, 1, none⟩ = false := by
  have f : ∀ i, W.frozen? ⟨r, i, none⟩ = false := fun i => by simp [World.frozen?, h]
  refine ⟨?_, ?_, f 0, f 1⟩ <;> (rw [cell_of_row _ _ _ _ _ _ h]; rfl)
theorem res_cell_tmp {P : Program} {fn : Func} {p q : Tmp} {ty : TypeId} (h : fn.results = #[.cell p ty, .tmp q]) (tmps : Array Value) (w : World) (g : Nat) (t : TypeId) (cs : Array Value) (fr : Nat × Nat) (d : TypeDesc)
    (hp : tmps.getD p undef = .pointer (some ⟨g, 0, none⟩)) (hg : w.heap[g]? = some (.cells cs t fr))
    (hu : P.underlying ty = some d) (hd : (match d with | .struct _ | .array _ _ => true | _ => false) = true) (hi : (P.info? ty).map (·.size) = some cs.size) :
    (results fn tmps).run P w = .ok (.tuple #[.agg cs, tmps.getD q undef]) w := by
  have hp' : tmps[p]?.getD undef = .pointer (some ⟨g, 0, none⟩) := by simpa using hp
  simp [results, h, hp', asAddr, run_loadVar_row w g t ty cs fr d hg hu hd hi]
theorem cell_blk {w w' : World} {b o : Nat} (h : w'.heap[b]? = w.heap[b]?) : w'.cell? ⟨b, o, none⟩ = w.cell? ⟨b, o, none⟩ := by simp [World.cell?, h]
def ltC (x c : Int) : Bool := decide (x < c)
theorem cell_lt' {w : World} {b o : Nat} {v : Value} (h : w.cell? ⟨b, o, none⟩ = some v) : b < w.heap.size := by
  by_cases hb : b < w.heap.size
  · exact hb
  · have : w.heap[b]? = none := Array.getElem?_eq_none (by omega)
    simp [World.cell?, this] at h
/-- Three new blocks, one behind the other. -/
theorem al3 (w : World) (x y z : Obj) : (((w.alloc x).alloc y).alloc z).drew.heap[w.heap.size]? = some x ∧ (((w.alloc x).alloc y).alloc z).drew.heap[w.heap.size + 1]? = some y ∧ (((w.alloc x).alloc y).alloc z).drew.heap[w.heap.size + 1 + 1]? = some z ∧ Below w.heap.size w (((w.alloc x).alloc y).alloc z).drew := by
  have e0 := heap_alloc_new w x
  have e1 := heap_alloc_new (w.alloc x) y
  have e2 := heap_alloc_new ((w.alloc x).alloc y) z
  rw [World.size_alloc] at e1
  rw [World.size_alloc, World.size_alloc] at e2
  refine ⟨?_, ?_, e2, Below.drew ((((Below.refl _ _).alloc (Nat.le_refl _) _).alloc (by simp) _).alloc (by simp; omega) _)⟩
  · exact (Below.heap_alloc _ _ _ (by simp; omega)).trans ((Below.heap_alloc _ _ _ (by simp)).trans e0)
  · exact (Below.heap_alloc _ _ _ (by simp)).trans e1
theorem row_made {w : World} {b t n : Nat} {z : Value} (h : w.heap[b]? = some (.cells (madeCells #[z] n) t)) : w.rowIs b t n (fun _ => z) := by
  have h1 := World.rowIs_made w z n t
  obtain ⟨c, h2, h3, h4⟩ := h1
  rw [heap_alloc_new] at h2
  injection h2 with h2
  injection h2 with h2
  subst h2
  exact ⟨_, h, h3, h4⟩

set_option maxRecDepth 100000 in
set_option maxHeartbeats 4000000 in
theorem s_Core (w : World) (A S O X : Option Addr) (n cap s sc o oc m mc : Nat) (nm : Nat → ByteArray) (lo hi sd ov c : Nat → Int) (ord tile form codec : Int) (hd : DimsAt w A n nm lo hi) (hs : IntsAt w S s sd) (ho : IntsAt w O o ov) (hx : IntsAt w X m c) (hs1 : s ≤ 1000) (ho1 : o ≤ 1000) (hn1 : n ≤ 1000) (hm1 : m ≤ 1000)
    (he : coreE nm lo hi n sd ov s o ord tile form codec c m = 0) :
    Calls Tryz.prog 61 #[.slice A n cap, LayV S s sc O o oc ord tile form codec, .slice X m mc] w fun e w' => ∃ b b2, e = .returned (.tuple #[BoxV (some ⟨b, 0, none⟩) (some ⟨b2, 0, none⟩) n n n n, .int .i64 0]) ∧ w.heap.size ≤ b ∧ w.heap.size ≤ b2 ∧ b ≠ b2 ∧ w'.rowIs b 3 n (fun k => .int .i64 (coreLo lo sd c k)) ∧ w'.rowIs b2 3 n (fun k => .int .i64 (coreHi lo hi sd c k)) ∧ Below w.heap.size w w' := by
  have KB := Lib.hid (lay_box w S O s sc o oc ord tile form codec)
  have HB : Hid (Below w.heap.size w (w.alloc (.cells #[.slice S s sc, .slice O o oc, .int .i64 ord, .int .i64 tile, .int .i64 form, .int .i64 codec] 43))) := (Below.refl _ _).alloc (Nat.le_refl _) _
  have HL := Lib.hid (fun W => s_Layout W A S O n cap s sc o oc nm lo hi sd ov ord tile form codec)
  have HLC := Lib.hid s_lastChunk
  have HLL := Lib.hid s_last
  obtain ⟨h0, rfl, h2⟩ := core_zero he
  obtain ⟨rfl, rfl, _, hn4, hf⟩ := lay_facts h0
  have HF := Lib.hid hf
  have HI := Lib.hid (cinTo_ok h2)
  rw [h0] at HL
  have HD := Lib.hid hd
  have HS := Lib.hid hs
  have HO := Lib.hid ho
  have HX := Lib.hid hx
  clear hd hs ho hx he h0 h2 hf
  have hmk := fun W => run_make_row' (P := Tryz.prog) 35 3 (.int .i64 0) 8 Tryz.underlying35 info_int rfl .i64 .i64 o (by omega) (by omega) W
  go_enter Tryz.func61, Tryz.ntmps61
  go_wp2_with fail
  have hz0 : ((w.alloc (.cells #[.slice S o sc, .slice O o oc, .int .i64 ord, .int .i64 tile, .int .i64 form, .int .i64 codec] 43)).alloc (.cells #[.slice none 0 0, .slice none 0 0] 45)).heap.size = w.heap.size + 2 := by simp
  have KB2 : Hid (∀ W, Below (w.heap.size + 2) ((w.alloc (.cells #[.slice S o sc, .slice O o oc, .int .i64 ord, .int .i64 tile, .int .i64 form, .int .i64 codec] 43)).alloc (.cells #[.slice none 0 0, .slice none 0 0] 45)) W → W.cell? ⟨w.heap.size, 0, none⟩ = some (.slice S o sc) ∧ W.heap[w.heap.size + 1]? = some (.cells #[.slice none 0 0, .slice none 0 0] 45 (0, 0))) := fun W hW => by
    refine ⟨(KB.out W (Below.trans ((Below.refl _ _).alloc (Nat.le_refl _) _) (hW.mono (by simp)))).1, ?_⟩
    have h9 := heap_alloc_new (w.alloc (.cells #[.slice S o sc, .slice O o oc, .int .i64 ord, .int .i64 tile, .int .i64 form, .int .i64 codec] 43)) (.cells #[.slice none 0 0, .slice none 0 0] 45)
    rw [World.size_alloc] at h9
    exact (hW.block _ (by omega)).trans h9
  have HB2 : Hid (Below w.heap.size w ((w.alloc (.cells #[.slice S o sc, .slice O o oc, .int .i64 ord, .int .i64 tile, .int .i64 form, .int .i64 codec] 43)).alloc (.cells #[.slice none 0 0, .slice none 0 0] 45))) := HB.out.alloc (by simp) _
  clear KB HB
  generalize (w.alloc (.cells #[.slice S o sc, .slice O o oc, .int .i64 ord, .int .i64 tile, .int .i64 form, .int .i64 codec] 43)).alloc (.cells #[.slice none 0 0, .slice none 0 0] 45) = W0 at *
  refine (HL.out _ (HD.out.below HB2.out) (HS.out.below HB2.out) (HO.out.below HB2.out) hn1 hn1 hn1).mono ?_
  rintro e w1 ⟨rfl, hb1⟩
  have HB1 : Hid (Below w.heap.size w w1) := st HB2.out hb1
  have HB01 : Hid (Below (w.heap.size + 2) W0 w1) := by show Below _ _ _; rw [← hz0]; exact hb1
  have hz1 : w.heap.size + 2 ≤ w1.heap.size := by rw [← hz0]; exact hb1.size
  clear hb1 HL
  obtain ⟨l0, -⟩ := KB2.out w1 HB01.out
  have l1 := (KB2.out ((w1.alloc (.cells (madeCells #[.int .i64 0] o) 3)).alloc (.cells (madeCells #[.int .i64 0] o) 3)) ((HB01.out.alloc hz1 _).alloc (by simp; omega) _)).1
  go_wp2_with fail
  clear l0 l1
  rename_i K hK
  have key : ∀ (bl bh bb : Nat) (W2 : World), W2.rowIs bl 3 o (fun _ => .int .i64 0) → W2.rowIs bh 3 o (fun _ => .int .i64 0) → W2.heap[bb]? = some (.cells #[.slice (some ⟨bl, 0, none⟩) o o, .slice (some ⟨bh, 0, none⟩) o o] 45 (0, 0)) → Below w1.heap.size w1 W2 → (w1.heap.size ≤ bl ∧ w1.heap.size ≤ bh ∧ w1.heap.size ≤ bb ∧ bl ≠ bh ∧ bl ≠ bb ∧ bh ≠ bb) → K ⟨#[.slice A o cap, LayV S o sc O o oc ord tile form codec, .slice X o mc, undef, .pointer (some ⟨w.heap.size, 0, none⟩), undef, .pointer (some ⟨w.heap.size + 1, 0, none⟩), .int .i64 0, .int .i64 0, .pointer (some ⟨bb, 0, none⟩), undef, undef, .slice A o cap, .agg #[.slice S o sc, .slice O o oc, .int .i64 ord, .int .i64 tile, .int .i64 form, .int .i64 codec], .int .i64 0, .int .i64 0, .bool false, undef, undef, .slice X o mc, .int .i64 o, .slice A o cap, .int .i64 o, .bool false, undef, .slice A o cap, .int .i64 o, .slice (some ⟨bl, 0, none⟩) o o, .slice A o cap, .int .i64 o, .slice (some ⟨bh, 0, none⟩) o o, .agg #[.slice (some ⟨bl, 0, none⟩) o o, .slice (some ⟨bh, 0, none⟩) o o], undef, undef, undef, undef, undef, undef, undef, undef, undef, undef, undef, undef, undef, undef, undef, undef, undef, undef, undef, undef, undef, undef, undef, undef, undef, undef, undef, undef, undef, undef, undef, undef, undef, undef, undef, undef, undef, undef, undef, undef, undef, undef, undef, undef, undef, undef, undef, undef, undef, undef, undef, undef, undef, undef, undef, undef, undef, undef, undef, undef, undef, undef, undef], []⟩ W2 := by
    intro bl bh bb W2 r1 r2 r3 hb2 hne
    refine hK _ _ ?_
    clear hK hmk
    have HR3 : Hid (∀ W : World, W.heap[bb]? = W2.heap[bb]? → W.heap[bb]? = some (.cells #[.slice (some ⟨bl, 0, none⟩) o o, .slice (some ⟨bh, 0, none⟩) o o] 45 (0, 0))) := fun W h => h.trans r3
    have HNE := Lib.hid hne
    have HRB2 := Lib.hid r3
    have HW2 : Hid (Below w.heap.size w W2) := st HB1.out hb2
    have HW02 : Hid (Below (w.heap.size + 2) W0 W2) := HB01.out.trans (hb2.mono hz1)
    have s2 := hb2.size
    have hbbl : bb < W2.heap.size := (Array.getElem?_eq_some_iff.1 r3).1
    clear r3 hb2 hne
    obtain ⟨l0, -⟩ := KB2.out W2 HW02.out
    go_wp2
    go_loopw [10, 11, 35] (fun _ _ i wr => ∃ (k : Nat) (f g : Nat → Int), k ≤ o ∧ i = .int .i64 k ∧ wr.rowIs bl 3 o (fun j => .int .i64 (f j)) ∧ wr.rowIs bh 3 o (fun j => .int .i64 (g j)) ∧ Hid (∀ j, j < k → f j = coreLo lo sd c j ∧ g j = coreHi lo hi sd c j) ∧ Hid (wr.heap[bb]? = W2.heap[bb]?) ∧ Hid (Below w.heap.size w wr) ∧ Hid (Below (w.heap.size + 2) W0 wr)) (fun _ _ i _ => o - (intOf i).toNat)
    case atStart => exact ⟨0, fun _ => 0, fun _ => 0, Nat.zero_le _, rfl, r1, r2, fun j hj => absurd hj (by omega), rfl, HW2.out, HW02.out⟩
    case round =>
      obtain ⟨k, f, g, hk, rfl, hf1, hg1, HV, HQ, HBw, HB0w⟩ := hrel
      have hrb := HR3.out wr HQ.out
      have b0 : wr.cell? ⟨bb, 0, none⟩ = some (.slice (some ⟨bl, 0, none⟩) o o) := by rw [cell_of_row _ _ _ _ _ _ hrb]; rfl
      have b1 : wr.cell? ⟨bb, 1, none⟩ = some (.slice (some ⟨bh, 0, none⟩) o o) := by rw [cell_of_row _ _ _ _ _ _ hrb]; rfl
      by_cases hlt : k < o
      · obtain ⟨bd, od, rfl, hbd, hc⟩ := HD.out (by omega)
        obtain ⟨d0, d1, d2⟩ := hc k hlt
        clear hc
        obtain ⟨bs, os, rfl, _, hcs⟩ := (HS.out.below HBw.out) (by omega)
        have x0 := hcs k hlt
        obtain ⟨bx, ox, rfl, hbx, hcx⟩ := HX.out (by omega)
        have e0 := hcx k hlt
        clear hcs hcx
        have HCC : Hid (∀ W, Below w.heap.size w W → W.cell? ⟨bx, ox + k, none⟩ = some (.int .i64 (c k)) ∧ W.cell? ⟨bd, od + k * 3, none⟩ = some (.string (nm k)) ∧ W.cell? ⟨bd, od + k * 3 + 1, none⟩ = some (.int .i64 (lo k)) ∧ W.cell? ⟨bd, od + k * 3 + 2, none⟩ = some (.int .i64 (hi k))) := fun W hW =>
          ⟨(hW.cell (p := ⟨bx, ox + k, none⟩) hbx).trans e0, (hW.cell (p := ⟨bd, od + k * 3, none⟩) hbd).trans d0, (hW.cell (p := ⟨bd, od + k * 3 + 1, none⟩) hbd).trans d1, (hW.cell (p := ⟨bd, od + k * 3 + 2, none⟩) hbd).trans d2⟩
        obtain ⟨y0, c0, c1, c2⟩ := HCC.out wr HBw.out
        clear e0 d0 d1 d2 hbd hbx
        have hfk := HF.out k hlt
        have hik := HI.out k hlt
        have hmc := mul_chunk (c := c k) (s := sd k) (L := lastZ (hi k) - lo k) hik.1 hik.2 hfk.2.2.2.2.2.1
        have HLk := Lib.hid (fun W => HLC.out (nm k) (lo k) (hi k) (sd k) W hfk.1 hfk.2.2.1 hfk.2.1 hfk.2.2.2.2.2.1 hfk.2.2.2.2.2.2.1)
        have HLLk := Lib.hid (fun W => HLL.out (nm k) (lo k) (hi k) W)
        have HE1 : Hid (coreLo lo sd c k = lo k + c k * sd k) := rfl
        have HE2 : Hid (coreHi lo hi sd c k = min (lo k + c k * sd k + sd k - 1) (lastZ (hi k))) := rfl
        generalize lcZ (lo k) (hi k) (sd k) = LC at *
        generalize lastZ (hi k) = hl at *
        generalize nm k = s0 at *
        generalize lo k = l9 at *
        generalize hi k = h9 at *
        generalize c k = z at *
        generalize sd k = q at *
        obtain ⟨f1, f2, f3, f4, f5, f6, f7, f8, f9, f10⟩ := hfk
        obtain ⟨i1, i2⟩ := hik
        have r1 : decide (z < 0) = ltC z 0 := rfl
        have a1 : ltC z 0 = false := decide_eq_false (by omega)
        go_wp2_with fail
        have B0d : Below wr.heap.size wr wr.drew := Below.drew (Below.refl _ _)
        go_region_held3 (fun W => W.cell? ⟨bx, ox + k, none⟩ = some (.int .i64 z) ∧ W.cell? ⟨bd, od + k * 3, none⟩ = some (.string s0) ∧ W.cell? ⟨bd, od + k * 3 + 1, none⟩ = some (.int .i64 l9) ∧ W.cell? ⟨bd, od + k * 3 + 2, none⟩ = some (.int .i64 h9))
          (first | exact HCC.out _ (st HBw.out B1) | exact HCC.out _ (st HBw.out B0d) | exact HCC.out _ HBw.out)
          (first
            | (go_at_call 59; refine (HLk.out _).mono ?_; rintro e w3 ⟨rfl, hb3⟩; have B1 : Below wr.heap.size wr w3 := st B0d hb3))
        all_goals
          have hbbr : bb < wr.heap.size := (Array.getElem?_eq_some_iff.1 hrb).1
          have hf3 : w3.rowIs bl 3 o (fun j => .int .i64 (f j)) := hf1.of_block (B1.block bl hf1.lt)
          have hg3 : w3.rowIs bh 3 o (fun j => .int .i64 (g j)) := hg1.of_block (B1.block bh hg1.lt)
          have hrb3 : w3.heap[bb]? = some (.cells #[.slice (some ⟨bl, 0, none⟩) o o, .slice (some ⟨bh, 0, none⟩) o o] 45 (0, 0)) := (B1.block bb hbbr).trans hrb
          have HB3 := Lib.hid B1
          have hf1lt := hf1.lt
          clear hf1 hg1 hrb b0 b1 c0 c1 c2 y0 x0 B0d
          obtain ⟨y0, c0, c1, c2⟩ := HCC.out w3 (st HBw.out B1)
          have b0 : w3.cell? ⟨bb, 0, none⟩ = some (.slice (some ⟨bl, 0, none⟩) o o) := by rw [cell_of_row _ _ _ _ _ _ hrb3]; rfl
          have b1 : w3.cell? ⟨bb, 1, none⟩ = some (.slice (some ⟨bh, 0, none⟩) o o) := by rw [cell_of_row _ _ _ _ _ _ hrb3]; rfl
          have hS := hf3.cell (i := k) (by omega)
          have hZ := hf3.frozen k
          clear B1
          go_wp2_with fail
          go_still_tail 16, (by kernel_rfl)
          change wpList _ _ _ _ _ w3.drew
          have hf4 : w3.drew.rowIs bl 3 o (fun j => .int .i64 (f j)) := hf3
          have hg4 : w3.drew.rowIs bh 3 o (fun j => .int .i64 (g j)) := hg3
          have hrb4 : w3.drew.heap[bb]? = some (.cells #[.slice (some ⟨bl, 0, none⟩) o o, .slice (some ⟨bh, 0, none⟩) o o] 45 (0, 0)) := hrb3
          have HB4 : Hid (Below wr.heap.size wr w3.drew) := Below.drew HB3.out
          clear hf3 hg3 hrb3 b0 b1 c0 c1 c2 y0 hS hZ
          generalize hw4 : w3.drew = w4 at *
          obtain ⟨y0, c0, c1, c2⟩ := HCC.out w4 (st HBw.out HB4.out)
          have hS := hf4.cell (i := k) (by omega)
          have hZ := hf4.frozen k
          clear hw4
          have hne := HNE.out
          go_wp2_with fail
          have hf5 := set_int hf4 k (l9 + z * q) _ rfl
          have hg5 := hg4.setOther (a := ⟨bl, k, none⟩) (by show bh ≠ bl; omega) (.int .i64 (l9 + z * q))
          have hrb5 : (w4.setCell ⟨bl, k, none⟩ (.int .i64 (l9 + z * q))).heap[bb]? = some (.cells #[.slice (some ⟨bl, 0, none⟩) o o, .slice (some ⟨bh, 0, none⟩) o o] 45 (0, 0)) := (blk_setCell_other _ _ _ _ (by show bb ≠ bl; omega)).trans hrb4
          have HB5 : Hid (Below w.heap.size w (w4.setCell ⟨bl, k, none⟩ (.int .i64 (l9 + z * q)))) := (st HBw.out HB4.out).setCell (by show w.heap.size ≤ bl; omega) _
          have HB05 : Hid (Below (w.heap.size + 2) W0 (w4.setCell ⟨bl, k, none⟩ (.int .i64 (l9 + z * q)))) := (HB0w.out.trans (HB4.out.mono (by have := HBw.out.size; have := HNE.out; have := hf1lt; omega))).setCell (by show w.heap.size + 2 ≤ bl; omega) _
          have HQ5 : Hid ((w4.setCell ⟨bl, k, none⟩ (.int .i64 (l9 + z * q))).heap[bb]? = W2.heap[bb]?) := hrb5.trans HRB2.out.symm
          clear hf4 hg4 hrb4 y0 c0 c1 c2 hS hZ HB4 HB3
          generalize w4.setCell ⟨bl, k, none⟩ (.int .i64 (l9 + z * q)) = w5 at *
          have hvk : updZ f k (l9 + z * q) k = l9 + z * q := if_pos rfl
          have HKK : Hid (∀ W, Below w5.heap.size w5 W → (W.cell? ⟨bb, 0, none⟩ = some (.slice (some ⟨bl, 0, none⟩) o o) ∧ W.cell? ⟨bb, 1, none⟩ = some (.slice (some ⟨bh, 0, none⟩) o o) ∧ W.cell? ⟨bl, k, none⟩ = some (.int .i64 (l9 + z * q))) ∧ W.cell? ⟨bd, od + k * 3, none⟩ = some (.string s0) ∧ W.cell? ⟨bd, od + k * 3 + 1, none⟩ = some (.int .i64 l9) ∧ W.cell? ⟨bd, od + k * 3 + 2, none⟩ = some (.int .i64 h9)) := fun W hW => by
            obtain ⟨-, g2, g3, g4⟩ := HCC.out W (st HB5.out hW)
            have g5 := (hW.block bb (Array.getElem?_eq_some_iff.1 hrb5).1).trans hrb5
            refine ⟨⟨?_, ?_, ?_⟩, g2, g3, g4⟩
            · rw [cell_of_row _ _ _ _ _ _ g5]; rfl
            · rw [cell_of_row _ _ _ _ _ _ g5]; rfl
            · rw [(hf5.of_block (hW.block bl hf5.lt)).cell (i := k) (by omega), hvk]
          have hbdb : bd ≠ bh := by
            have h1 := cell_lt' (HCC.out w (Below.refl _ _)).2.1
            omega
          have HKS : Hid (∀ W u, Below w5.heap.size w5 W → ((W.setCell ⟨bh, k, none⟩ u).cell? ⟨bb, 0, none⟩ = some (.slice (some ⟨bl, 0, none⟩) o o) ∧ (W.setCell ⟨bh, k, none⟩ u).cell? ⟨bb, 1, none⟩ = some (.slice (some ⟨bh, 0, none⟩) o o) ∧ (W.setCell ⟨bh, k, none⟩ u).cell? ⟨bl, k, none⟩ = some (.int .i64 (l9 + z * q))) ∧ (W.setCell ⟨bh, k, none⟩ u).cell? ⟨bd, od + k * 3, none⟩ = some (.string s0) ∧ (W.setCell ⟨bh, k, none⟩ u).cell? ⟨bd, od + k * 3 + 1, none⟩ = some (.int .i64 l9) ∧ (W.setCell ⟨bh, k, none⟩ u).cell? ⟨bd, od + k * 3 + 2, none⟩ = some (.int .i64 h9)) := fun W u hW => by
            have hs := fun b (hb : b ≠ bh) => blk_setCell_other W ⟨bh, k, none⟩ u b hb
            rw [cell_blk (hs bb (by omega)), cell_blk (hs bb (by omega)), cell_blk (hs bl (by omega)), cell_blk (hs bd hbdb), cell_blk (hs bd hbdb), cell_blk (hs bd hbdb)]
            exact HKK.out W hW
          have HG5 : Hid (∀ W, Below w5.heap.size w5 W → W.rowIs bh 3 o (fun j => .int .i64 (g j))) := fun W hW => hg5.of_block (hW.block bh hg5.lt)
          have HF5 : Hid (∀ W, Below w5.heap.size w5 W → W.rowIs bl 3 o (fun j => .int .i64 (updZ f k (l9 + z * q) j))) := fun W hW => hf5.of_block (hW.block bl hf5.lt)
          have HQW : Hid (∀ W, Below w5.heap.size w5 W → W.heap[bb]? = W2.heap[bb]?) := fun W hW => (hW.block bb (Array.getElem?_eq_some_iff.1 hrb5).1).trans HQ5.out
          have hz5 : w.heap.size + 2 ≤ w5.heap.size := by have := hf5.lt; omega
          clear hf5 hg5 hrb5
          have B5d : Below w5.heap.size w5 w5.drew := Below.drew (Below.refl _ _)
          go_region_held3 (fun W => (W.cell? ⟨bb, 0, none⟩ = some (.slice (some ⟨bl, 0, none⟩) o o) ∧ W.cell? ⟨bb, 1, none⟩ = some (.slice (some ⟨bh, 0, none⟩) o o) ∧ W.cell? ⟨bl, k, none⟩ = some (.int .i64 (l9 + z * q))) ∧ W.cell? ⟨bd, od + k * 3, none⟩ = some (.string s0) ∧ W.cell? ⟨bd, od + k * 3 + 1, none⟩ = some (.int .i64 l9) ∧ W.cell? ⟨bd, od + k * 3 + 2, none⟩ = some (.int .i64 h9))
            (first | exact HKS.out _ _ B6 | exact HKK.out _ B6 | exact HKK.out _ B5d | exact HKK.out _ (Below.refl _ _))
            (first
              | (go_at_call 62; refine (HLLk.out _).mono ?_; rintro e w6 ⟨rfl, hb6⟩; have B6 : Below w5.heap.size w5 w6 := st B5d hb6; have hS6 := (HG5.out _ B6).cell (i := k) (by omega); have hZ6 := (HG5.out _ B6).frozen k))
          all_goals
            go_wp2_with fail
            have hX : (if hl < l9 + z * q + q - 1 then hl else l9 + z * q + q - 1) = coreHi lo hi sd c k := by
              rw [HE2.out]
              split <;> omega
            rw [hX]
            refine ⟨⟨k + 1, updZ f k (l9 + z * q), updZ g k (coreHi lo hi sd c k), by omega, by go_num, (HF5.out _ B6).setOther (by show bl ≠ bh; omega) _, set_int (HG5.out _ B6) k _ _ rfl, fun j hj => ?_, (blk_setCell_other _ _ _ _ (by show bb ≠ bh; omega)).trans (HQW.out _ B6), (st HB5.out B6).setCell (by show w.heap.size ≤ bh; omega) _, (HB05.out.trans (B6.mono hz5)).setCell (by show w.heap.size + 2 ≤ bh; omega) _⟩, by simp [intOf]; omega⟩
            by_cases e : j = k
            · subst e
              exact ⟨by rw [updZ, if_pos rfl, HE1.out], by rw [updZ, if_pos rfl]⟩
            · rw [updZ, if_neg e, updZ, if_neg e]
              exact HV.out j (by omega)
      · obtain rfl : k = o := by omega
        have HRl : Hid (wr.rowIs bl 3 k (fun j => .int .i64 (coreLo lo sd c j))) := hf1.congr fun j hj => by rw [(HV.out j hj).1]
        have HRh : Hid (wr.rowIs bh 3 k (fun j => .int .i64 (coreHi lo hi sd c j))) := hg1.congr fun j hj => by rw [(HV.out j hj).2]
        have hres := (KB2.out wr HB0w.out).2
        obtain ⟨r0, r1, z0, z1⟩ := box_at hres
        have hne := HNE.out
        go_wp2
        refine bodyPost_ret (v := .tuple #[BoxV (some ⟨bl, 0, none⟩) (some ⟨bh, 0, none⟩) k k k k, .int .i64 0]) (res_cell_tmp Tryz.results61 _ _ (w.heap.size + 1) 45 _ (0, 0) _ rfl (put2 hres _ _) Tryz.underlying45 rfl (by rw [info_box]; rfl)) rfl ?_
        exact ⟨bl, bh, rfl, by omega, by omega, by omega, (HRl.out.setOther (by show bl ≠ w.heap.size + 1; omega) _).setOther (by show bl ≠ w.heap.size + 1; omega) _, (HRh.out.setOther (by show bh ≠ w.heap.size + 1; omega) _).setOther (by show bh ≠ w.heap.size + 1; omega) _, (HBw.out.setCell (p := ⟨w.heap.size + 1, 0, none⟩) (by show w.heap.size ≤ w.heap.size + 1; omega) _).setCell (p := ⟨w.heap.size + 1, 1, none⟩) (by show w.heap.size ≤ w.heap.size + 1; omega) _⟩
  have KEY := Lib.hid key
  clear key
  go_region_held3 (fun W => True)
    (first | exact trivial)
    (first | fail)
  all_goals
    obtain ⟨q0, q1, q2, q3⟩ := al3 w1 _ _ _
    first
    | exact KEY.out _ _ _ _ (row_made q0) (row_made q1) q2 q3 (by omega)
    | exact KEY.out _ _ _ _ (row_made q1) (row_made q0) q2 q3 (by omega)
    | exact KEY.out _ _ _ _ (row_made q0) (row_made q2) q1 q3 (by omega)
    | exact KEY.out _ _ _ _ (row_made q2) (row_made q0) q1 q3 (by omega)
    | exact KEY.out _ _ _ _ (row_made q1) (row_made q2) q0 q3 (by omega)
    | exact KEY.out _ _ _ _ (row_made q2) (row_made q1) q0 q3 (by omega)
end Go.Proofs.YtogmbehomilalaaGreatDoor
