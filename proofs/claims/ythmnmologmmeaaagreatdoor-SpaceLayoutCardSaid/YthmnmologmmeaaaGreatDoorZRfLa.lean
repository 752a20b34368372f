/- Core and Wide in error, whatever the error. -/
import Derived.Test.YthmnmologmmeaaaGreatDoorZChF
import Derived.Test.YthmnmologmmeaaaGreatDoorZSpE
import Derived.Test.YthmnmologmmeaaaGreatDoorZCmpS
import Derived.Test.YthmnmologmmeaaaGreatDoorZSpG

/- Core and Wide in error, whatever the error. -/
section
namespace Go.Proofs.YthmnmologmmeaaaGreatDoor
open Go Go.RowKit Go.Deep

set_option maxRecDepth 100000 in
set_option maxHeartbeats 4000000 in
theorem s_Core_lay (w : World) (A S O X : Option Addr) (n cap s sc o oc m mc : Nat) (nm : Nat → ByteArray) (lo hi sd ov c : Nat → Int) (ord tile form codec : Int) (hd : DimsAt w A n nm lo hi) (hs : IntsAt w S s sd) (ho : IntsAt w O o ov) (hx : IntsAt w X m c) (hs1 : s ≤ 1000) (ho1 : o ≤ 1000) (hn1 : n ≤ 1000) (_hm1 : m ≤ 1000)
    (h0 : layE nm lo hi n sd ov s o ord tile form codec ≠ 0) :
    Calls Tryz.prog 26 #[.slice A n cap, LayV S s sc O o oc ord tile form codec, .slice X m mc] w fun e w' => e = .returned (.tuple #[BoxV none none 0 0 0 0, .int .i64 (layE nm lo hi n sd ov s o ord tile form codec)]) ∧ Below w.heap.size w w' := by
  have KB := Lib.hid (lay_box w S O s sc o oc ord tile form codec)
  have HB : Hid (Below w.heap.size w (w.alloc (.cells #[.slice S s sc, .slice O o oc, .int .i64 ord, .int .i64 tile, .int .i64 form, .int .i64 codec] 54))) := (Below.refl _ _).alloc (Nat.le_refl _) _
  have HL := Lib.hid (fun W => s_Layout W A S O n cap s sc o oc nm lo hi sd ov ord tile form codec)
  obtain ⟨E, hE⟩ : ∃ E, layE nm lo hi n sd ov s o ord tile form codec = E := ⟨_, rfl⟩
  rw [hE] at h0 HL ⊢
  clear hE
  have HD := Lib.hid hd
  have HS := Lib.hid hs
  have HO := Lib.hid ho
  have HX := Lib.hid hx
  clear hd hs ho hx
  go_enter Tryz.func26, Tryz.ntmps26
  go_wp2_with fail
  have hz0 : ((w.alloc (.cells #[.slice S s sc, .slice O o oc, .int .i64 ord, .int .i64 tile, .int .i64 form, .int .i64 codec] 54)).alloc (.cells #[.slice none 0 0, .slice none 0 0] 66)).heap.size = w.heap.size + 2 := by simp
  have KB2 : Hid (∀ W, Below (w.heap.size + 2) ((w.alloc (.cells #[.slice S s sc, .slice O o oc, .int .i64 ord, .int .i64 tile, .int .i64 form, .int .i64 codec] 54)).alloc (.cells #[.slice none 0 0, .slice none 0 0] 66)) W → W.heap[w.heap.size + 1]? = some (.cells #[.slice none 0 0, .slice none 0 0] 66 (0, 0))) := fun W hW => by
    have h9 := heap_alloc_new (w.alloc (.cells #[.slice S s sc, .slice O o oc, .int .i64 ord, .int .i64 tile, .int .i64 form, .int .i64 codec] 54)) (.cells #[.slice none 0 0, .slice none 0 0] 66)
    rw [World.size_alloc] at h9
    exact (hW.block _ (by omega)).trans h9
  have HB2 : Hid (Below w.heap.size w ((w.alloc (.cells #[.slice S s sc, .slice O o oc, .int .i64 ord, .int .i64 tile, .int .i64 form, .int .i64 codec] 54)).alloc (.cells #[.slice none 0 0, .slice none 0 0] 66))) := HB.out.alloc (by simp) _
  clear KB HB
  generalize (w.alloc (.cells #[.slice S s sc, .slice O o oc, .int .i64 ord, .int .i64 tile, .int .i64 form, .int .i64 codec] 54)).alloc (.cells #[.slice none 0 0, .slice none 0 0] 66) = W0 at *
  refine (HL.out _ (HD.out.below HB2.out) (HS.out.below HB2.out) (HO.out.below HB2.out) hs1 ho1 hn1).mono ?_
  rintro e w1 ⟨rfl, hb1⟩
  have HB1 : Hid (Below w.heap.size w w1) := st HB2.out hb1
  have HB01 : Hid (Below (w.heap.size + 2) W0 w1) := by show Below _ _ _; rw [← hz0]; exact hb1
  have hz1 : w.heap.size + 2 ≤ w1.heap.size := by rw [← hz0]; exact hb1.size
  have HB21 := HB01
  have HBX := HB1
  have hres := KB2.out _ HB21.out
  obtain ⟨r0, r9, z0, z1⟩ := box_at hres
  clear hb1 HL
  have h1 : (E != 0) = true := by rw [bne_iff_ne]; exact h0
  clear h0
  go_wp2
  refine bodyPost_ret (v := .tuple #[BoxV none none 0 0 0 0, .int .i64 E]) (res_cell_tmp Tryz.results26 _ _ (w.heap.size + 1) 66 _ (0, 0) _ rfl (put2 hres _ _) Tryz.underlying66 rfl (by rw [info_box]; rfl)) rfl ?_
  exact ⟨rfl, (HBX.out.setCell (p := ⟨w.heap.size + 1, 0, none⟩) (by show w.heap.size ≤ w.heap.size + 1; omega) _).setCell (p := ⟨w.heap.size + 1, 1, none⟩) (by show w.heap.size ≤ w.heap.size + 1; omega) _⟩
set_option maxRecDepth 100000 in
set_option maxHeartbeats 4000000 in
theorem s_Core_len (w : World) (A S O X : Option Addr) (n cap s sc o oc m mc : Nat) (nm : Nat → ByteArray) (lo hi sd ov c : Nat → Int) (ord tile form codec : Int) (hd : DimsAt w A n nm lo hi) (hs : IntsAt w S s sd) (ho : IntsAt w O o ov) (hx : IntsAt w X m c) (hs1 : s ≤ 1000) (ho1 : o ≤ 1000) (hn1 : n ≤ 1000) (_hm1 : m ≤ 1000)
    (h0 : layE nm lo hi n sd ov s o ord tile form codec = 0) (hmn : m ≠ n) :
    Calls Tryz.prog 26 #[.slice A n cap, LayV S s sc O o oc ord tile form codec, .slice X m mc] w fun e w' => e = .returned (.tuple #[BoxV none none 0 0 0 0, .int .i64 13]) ∧ Below w.heap.size w w' := by
  have KB := Lib.hid (lay_box w S O s sc o oc ord tile form codec)
  have HB : Hid (Below w.heap.size w (w.alloc (.cells #[.slice S s sc, .slice O o oc, .int .i64 ord, .int .i64 tile, .int .i64 form, .int .i64 codec] 54))) := (Below.refl _ _).alloc (Nat.le_refl _) _
  have HL := Lib.hid (fun W => s_Layout W A S O n cap s sc o oc nm lo hi sd ov ord tile form codec)
  rw [h0] at HL
  clear h0
  have HD := Lib.hid hd
  have HS := Lib.hid hs
  have HO := Lib.hid ho
  have HX := Lib.hid hx
  clear hd hs ho hx
  go_enter Tryz.func26, Tryz.ntmps26
  go_wp2_with fail
  have hz0 : ((w.alloc (.cells #[.slice S s sc, .slice O o oc, .int .i64 ord, .int .i64 tile, .int .i64 form, .int .i64 codec] 54)).alloc (.cells #[.slice none 0 0, .slice none 0 0] 66)).heap.size = w.heap.size + 2 := by simp
  have KB2 : Hid (∀ W, Below (w.heap.size + 2) ((w.alloc (.cells #[.slice S s sc, .slice O o oc, .int .i64 ord, .int .i64 tile, .int .i64 form, .int .i64 codec] 54)).alloc (.cells #[.slice none 0 0, .slice none 0 0] 66)) W → W.heap[w.heap.size + 1]? = some (.cells #[.slice none 0 0, .slice none 0 0] 66 (0, 0))) := fun W hW => by
    have h9 := heap_alloc_new (w.alloc (.cells #[.slice S s sc, .slice O o oc, .int .i64 ord, .int .i64 tile, .int .i64 form, .int .i64 codec] 54)) (.cells #[.slice none 0 0, .slice none 0 0] 66)
    rw [World.size_alloc] at h9
    exact (hW.block _ (by omega)).trans h9
  have HB2 : Hid (Below w.heap.size w ((w.alloc (.cells #[.slice S s sc, .slice O o oc, .int .i64 ord, .int .i64 tile, .int .i64 form, .int .i64 codec] 54)).alloc (.cells #[.slice none 0 0, .slice none 0 0] 66))) := HB.out.alloc (by simp) _
  clear KB HB
  generalize (w.alloc (.cells #[.slice S s sc, .slice O o oc, .int .i64 ord, .int .i64 tile, .int .i64 form, .int .i64 codec] 54)).alloc (.cells #[.slice none 0 0, .slice none 0 0] 66) = W0 at *
  refine (HL.out _ (HD.out.below HB2.out) (HS.out.below HB2.out) (HO.out.below HB2.out) hs1 ho1 hn1).mono ?_
  rintro e w1 ⟨rfl, hb1⟩
  have HB1 : Hid (Below w.heap.size w w1) := st HB2.out hb1
  have HB01 : Hid (Below (w.heap.size + 2) W0 w1) := by show Below _ _ _; rw [← hz0]; exact hb1
  have hz1 : w.heap.size + 2 ≤ w1.heap.size := by rw [← hz0]; exact hb1.size
  have HB21 := HB01
  have HBX := HB1
  have hres := KB2.out _ HB21.out
  obtain ⟨r0, r9, z0, z1⟩ := box_at hres
  clear hb1 HL
  have g1 : ((m : Int) != (n : Int)) = true := by rw [bne_iff_ne]; omega
  go_wp2
  refine bodyPost_ret (v := .tuple #[BoxV none none 0 0 0 0, .int .i64 13]) (res_cell_tmp Tryz.results26 _ _ (w.heap.size + 1) 66 _ (0, 0) _ rfl (put2 hres _ _) Tryz.underlying66 rfl (by rw [info_box]; rfl)) rfl ?_
  exact ⟨rfl, (HBX.out.setCell (p := ⟨w.heap.size + 1, 0, none⟩) (by show w.heap.size ≤ w.heap.size + 1; omega) _).setCell (p := ⟨w.heap.size + 1, 1, none⟩) (by show w.heap.size ≤ w.heap.size + 1; omega) _⟩
set_option maxRecDepth 100000 in
set_option maxHeartbeats 4000000 in
theorem s_Core_err (w : World) (A S O X : Option Addr) (n cap s sc o oc m mc : Nat) (nm : Nat → ByteArray) (lo hi sd ov c : Nat → Int) (ord tile form codec : Int) (hd : DimsAt w A n nm lo hi) (hs : IntsAt w S s sd) (ho : IntsAt w O o ov) (hx : IntsAt w X m c) (hs1 : s ≤ 1000) (ho1 : o ≤ 1000) (hn1 : n ≤ 1000) (hm1 : m ≤ 1000)
    (he : coreE nm lo hi n sd ov s o ord tile form codec c m ≠ 0) :
    Calls Tryz.prog 26 #[.slice A n cap, LayV S s sc O o oc ord tile form codec, .slice X m mc] w fun e w' => e = .returned (.tuple #[BoxV none none 0 0 0 0, .int .i64 (coreE nm lo hi n sd ov s o ord tile form codec c m)]) ∧ Below w.heap.size w w' := by
  by_cases h0 : layE nm lo hi n sd ov s o ord tile form codec = 0
  · by_cases hmn : m = n
    · have h2 : cinTo lo hi sd c n = false := by
        cases h : cinTo lo hi sd c n
        · rfl
        · exact absurd (by rw [coreE, if_neg (by rw [h0]; simp), if_neg (by rw [hmn]; simp), h]; rfl) he
      rw [show coreE nm lo hi n sd ov s o ord tile form codec c m = 3 by rw [coreE, if_neg (by rw [h0]; simp), if_neg (by rw [hmn]; simp), h2]; rfl]
      exact s_Core_far w A S O X n cap s sc o oc m mc nm lo hi sd ov c ord tile form codec hd hs ho hx hs1 ho1 hn1 hm1 h0 hmn h2
    · rw [show coreE nm lo hi n sd ov s o ord tile form codec c m = 13 by rw [coreE, if_neg (by rw [h0]; simp), if_pos hmn]]
      exact s_Core_len w A S O X n cap s sc o oc m mc nm lo hi sd ov c ord tile form codec hd hs ho hx hs1 ho1 hn1 hm1 h0 hmn
  · rw [show coreE nm lo hi n sd ov s o ord tile form codec c m = layE nm lo hi n sd ov s o ord tile form codec by rw [coreE, if_pos h0]]
    exact s_Core_lay w A S O X n cap s sc o oc m mc nm lo hi sd ov c ord tile form codec hd hs ho hx hs1 ho1 hn1 hm1 h0
set_option maxRecDepth 100000 in
set_option maxHeartbeats 4000000 in
theorem s_Wide_err (w : World) (A S O X : Option Addr) (n cap s sc o oc m mc : Nat) (nm : Nat → ByteArray) (lo hi sd ov c : Nat → Int) (ord tile form codec : Int) (hd : DimsAt w A n nm lo hi) (hs : IntsAt w S s sd) (ho : IntsAt w O o ov) (hx : IntsAt w X m c) (hs1 : s ≤ 1000) (ho1 : o ≤ 1000) (hn1 : n ≤ 1000) (hm1 : m ≤ 1000)
    (he : coreE nm lo hi n sd ov s o ord tile form codec c m ≠ 0) :
    Calls Tryz.prog 28 #[.slice A n cap, LayV S s sc O o oc ord tile form codec, .slice X m mc] w fun e w' => e = .returned (.tuple #[BoxV none none 0 0 0 0, .int .i64 (coreE nm lo hi n sd ov s o ord tile form codec c m)]) ∧ Below w.heap.size w w' := by
  have KB := Lib.hid (lay_box w S O s sc o oc ord tile form codec)
  have HB : Hid (Below w.heap.size w (w.alloc (.cells #[.slice S s sc, .slice O o oc, .int .i64 ord, .int .i64 tile, .int .i64 form, .int .i64 codec] 54))) := (Below.refl _ _).alloc (Nat.le_refl _) _
  have HC := Lib.hid (fun W h1 h2 h3 h4 => s_Core_err W A S O X n cap s sc o oc m mc nm lo hi sd ov c ord tile form codec h1 h2 h3 h4 hs1 ho1 hn1 hm1 he)
  obtain ⟨E, hE⟩ : ∃ E, coreE nm lo hi n sd ov s o ord tile form codec c m = E := ⟨_, rfl⟩
  rw [hE] at he HC ⊢
  clear hE
  have HD := Lib.hid hd
  have HS := Lib.hid hs
  have HO := Lib.hid ho
  have HX := Lib.hid hx
  clear hd hs ho hx
  go_enter Tryz.func28, Tryz.ntmps28
  go_wp2_with fail
  have hz0 : ((w.alloc (.cells #[.slice S s sc, .slice O o oc, .int .i64 ord, .int .i64 tile, .int .i64 form, .int .i64 codec] 54)).alloc (.cells #[.slice none 0 0, .slice none 0 0] 66)).heap.size = w.heap.size + 2 := by simp
  have KB2 : Hid (∀ W, Below (w.heap.size + 2) ((w.alloc (.cells #[.slice S s sc, .slice O o oc, .int .i64 ord, .int .i64 tile, .int .i64 form, .int .i64 codec] 54)).alloc (.cells #[.slice none 0 0, .slice none 0 0] 66)) W → W.heap[w.heap.size + 1]? = some (.cells #[.slice none 0 0, .slice none 0 0] 66 (0, 0))) := fun W hW => by
    have h9 := heap_alloc_new (w.alloc (.cells #[.slice S s sc, .slice O o oc, .int .i64 ord, .int .i64 tile, .int .i64 form, .int .i64 codec] 54)) (.cells #[.slice none 0 0, .slice none 0 0] 66)
    rw [World.size_alloc] at h9
    exact (hW.block _ (by omega)).trans h9
  have HB2 : Hid (Below w.heap.size w ((w.alloc (.cells #[.slice S s sc, .slice O o oc, .int .i64 ord, .int .i64 tile, .int .i64 form, .int .i64 codec] 54)).alloc (.cells #[.slice none 0 0, .slice none 0 0] 66))) := HB.out.alloc (by simp) _
  clear KB HB
  generalize (w.alloc (.cells #[.slice S s sc, .slice O o oc, .int .i64 ord, .int .i64 tile, .int .i64 form, .int .i64 codec] 54)).alloc (.cells #[.slice none 0 0, .slice none 0 0] 66) = W0 at *
  refine (HC.out _ (HD.out.below HB2.out) (HS.out.below HB2.out) (HO.out.below HB2.out) (HX.out.below HB2.out)).mono ?_
  rintro e w1 ⟨rfl, hb1⟩
  have HB1 : Hid (Below w.heap.size w w1) := st HB2.out hb1
  have HB01 : Hid (Below (w.heap.size + 2) W0 w1) := by show Below _ _ _; rw [← hz0]; exact hb1
  have hz1 : w.heap.size + 2 ≤ w1.heap.size := by rw [← hz0]; exact hb1.size
  have HB21 : Hid (Below (w.heap.size + 2) W0 (w1.alloc (.cells #[.slice none 0 0, .slice none 0 0] 66))) := HB01.out.alloc hz1 _
  have HBX : Hid (Below w.heap.size w (w1.alloc (.cells #[.slice none 0 0, .slice none 0 0] 66))) := HB1.out.alloc (by omega) _
  have hres := KB2.out _ HB21.out
  obtain ⟨r0, r9, z0, z1⟩ := box_at hres
  clear hb1 HC
  have h1 : (E != 0) = true := by rw [bne_iff_ne]; exact he
  clear he
  go_wp2
  refine bodyPost_ret (v := .tuple #[BoxV none none 0 0 0 0, .int .i64 E]) (res_cell_tmp Tryz.results28 _ _ (w.heap.size + 1) 66 _ (0, 0) _ rfl (put2 hres _ _) Tryz.underlying66 rfl (by rw [info_box]; rfl)) rfl ?_
  exact ⟨rfl, (HBX.out.setCell (p := ⟨w.heap.size + 1, 0, none⟩) (by show w.heap.size ≤ w.heap.size + 1; omega) _).setCell (p := ⟨w.heap.size + 1, 1, none⟩) (by show w.heap.size ≤ w.heap.size + 1; omega) _⟩
end Go.Proofs.YthmnmologmmeaaaGreatDoor
end

/- The reference's names and bounds. -/
section
namespace Go.Proofs.YthmnmologmmeaaaGreatDoor
open Go Go.RowKit Go.Deep

theorem ret_b {a b : Bool} (h : a = b) : Ending.returned (.bool a) = .returned (.bool b) := by rw [h]
set_option maxHeartbeats 400000 in
theorem r_letter (c : Int) (w : World) : Calls Tryz.prog 130 #[.int .u8 c] w fun e w' => e = .returned (.bool (letB c)) ∧ w = w' := by
  by_cases h : 97 ≤ c
  · have e1 : letB c = decide (c ≤ 122) := by simp [letB, h]
    rw [e1]
    go_enter Tryz.func130, Tryz.ntmps130
    go_wp2
    go_ret
    exact ⟨rfl, rfl⟩
  · have e1 : letB c = false := by simp [letB, h]
    rw [e1]
    go_enter Tryz.func130, Tryz.ntmps130
    go_wp2
    go_ret
    exact ⟨rfl, rfl⟩
set_option maxHeartbeats 1000000 in
theorem r_further (c : Int) (w : World) : Calls Tryz.prog 131 #[.int .u8 c] w fun e w' => e = .returned (.bool (chrB c)) ∧ w = w' := by
  have HL := Lib.hid r_letter
  have HX : Hid (chrB c = (letB c || ((decide (48 ≤ c) && decide (c ≤ 57)) || c == 95))) := rfl
  go_enter Tryz.func131, Tryz.ntmps131
  go_wp2_with fail
  refine (HL.out _ _).mono ?_
  rintro e w1 ⟨rfl, rfl⟩
  generalize letB c = L at *
  cases L
  · by_cases g1 : 48 ≤ c
    · by_cases g2 : c ≤ 57
      · rw [decide_eq_true g1, decide_eq_true g2] at HX
        go_wp2
        go_ret
        exact ⟨ret_b (by rw [HX.out]; rfl), rfl⟩
      · rw [decide_eq_true g1] at HX
        go_wp2
        go_ret
        exact ⟨ret_b (by rw [HX.out]; rfl), rfl⟩
    · rw [decide_eq_false g1] at HX
      go_wp2
      go_ret
      exact ⟨ret_b (by rw [HX.out]; rfl), rfl⟩
  · go_wp2
    go_ret
    exact ⟨ret_b (by rw [HX.out]; simp), rfl⟩

set_option maxRecDepth 100000 in
set_option maxHeartbeats 2000000 in
theorem r_Name (s : ByteArray) (w : World) (hs : s.size ≤ 9223372036854775807) : Calls Tryz.prog 91 #[.string s] w fun e w' => e = .returned (.bool (nameB s)) ∧ w = w' := by
  have HL := Lib.hid r_letter
  have HF := Lib.hid r_further
  by_cases h0 : s.size = 0
  · have e1 : nameB s = false := by simp [nameB, h0]
    have h0' : (s.size : Int) < 1 := by omega
    rw [e1]
    clear e1
    go_enter Tryz.func91, Tryz.ntmps91
    go_wp2
    go_ret
    exact ⟨rfl, rfl⟩
  · have h0' : ¬ (s.size : Int) < 1 := by omega
    by_cases h1 : s.size ≤ 12
    · have hp : 0 < s.size := by omega
      have h1' : ¬ (s.size : Int) > 12 := by omega
      have HB := Lib.hid (byt_eq s 0 hp)
      have HN : Hid (nameB s = (letB (byt s 0) && nameTo s s.size)) := by show _ = _; simp [nameB, hp, h1]
      have HS := Lib.hid h1
      rw [HN.out]
      clear h0 h1
      go_enter Tryz.func91, Tryz.ntmps91
      go_wp2_with fail
      refine (HL.out _ _).mono ?_
      rintro e w1 ⟨rfl, rfl⟩
      rw [← HB.out]
      generalize hL : letB (byt s 0) = L
      have HLv := Lib.hid hL
      clear hL
      cases L
      · go_wp2
        go_ret
        exact ⟨ret_b (by rw [HLv.out]; rfl), rfl⟩
      · go_wp2
        go_loop [3] (fun i => ∃ k : Nat, k ≤ s.size ∧ i = .int .i64 k ∧ Hid (nameTo s k = true)) (fun i => s.size - (intOf i).toNat)
        case atStart => exact ⟨0, Nat.zero_le _, rfl, rfl⟩
        case round =>
          obtain ⟨k, hk, rfl, HK⟩ := hrel
          by_cases hlt : k < s.size
          · have HBk := Lib.hid (byt_eq s k hlt)
            have HC : Hid (chrB (s[k].toNat : Int) = true → nameTo s (k + 1) = true) := fun h => by rw [nameTo_succ, HK.out, HBk.out, h]; rfl
            have HE : Hid (chrB (s[k].toNat : Int) = false → nameTo s s.size = false) := fun h => nameTo_le (k := k + 1) (by rw [nameTo_succ, HBk.out, h, Bool.and_false]) (by omega)
            go_wp2_with fail
            refine (HF.out _ _).mono ?_
            rintro e w1 ⟨rfl, rfl⟩
            generalize chrB (s[k].toNat : Int) = L at *
            cases L
            · have HR := Lib.hid (HE.out rfl)
              go_wp2
              go_ret
              exact ⟨ret_b (by rw [HLv.out, HR.out]; rfl), rfl⟩
            · have HR := Lib.hid (HC.out rfl)
              go_wp2
              go_round
              case rel => exact ⟨k + 1, by omega, by go_num, HR.out⟩
              case measure => simp [intOf]; omega
          · obtain rfl : k = s.size := by omega
            go_wp2
            go_ret
            exact ⟨ret_b (by rw [HLv.out, HK.out]; rfl), rfl⟩
    · have e1 : nameB s = false := by simp [nameB, h1]
      have h1' : (s.size : Int) > 12 := by omega
      rw [e1]
      clear e1
      go_enter Tryz.func91, Tryz.ntmps91
      go_wp2
      go_ret
      exact ⟨rfl, rfl⟩

def boundB (lo hi : Int) : Bool := if lo < -1073741824 ∨ lo > 1073741824 ∨ hi < lo ∨ hi > 1073741825 then false else true
set_option maxHeartbeats 2000000 in
theorem r_bounds (s : ByteArray) (lo hi : Int) (w : World) : Calls Tryz.prog 110 #[DimV s lo hi] w fun e w' => e = .returned (.bool (boundB lo hi)) ∧ Below w.heap.size w w' := by
  have HX : Hid (boundB lo hi = if lo < -1073741824 ∨ lo > 1073741824 ∨ hi < lo ∨ hi > 1073741825 then false else true) := rfl
  have hb : Below w.heap.size w (w.alloc (.cells #[.string s, .int .i64 lo, .int .i64 hi] 43)) := (Below.refl _ _).alloc (Nat.le_refl _) _
  go_enter Tryz.func110, Tryz.ntmps110
  by_cases g1 : lo < -1073741824
  · have g1' : ¬ lo ≥ -1073741824 := by omega
    go_wp2
    go_ret
    exact ⟨ret_b (by rw [HX.out, if_pos (by omega)]), hb⟩
  · have g1' : lo ≥ -1073741824 := by omega
    by_cases g2 : lo > 1073741824
    · have g2' : ¬ lo ≤ 1073741824 := by omega
      go_wp2
      go_ret
      exact ⟨ret_b (by rw [HX.out, if_pos (by omega)]), hb⟩
    · have g2' : lo ≤ 1073741824 := by omega
      by_cases g3 : hi < lo
      · have g3' : ¬ hi ≥ lo := by omega
        go_wp2
        go_ret
        exact ⟨ret_b (by rw [HX.out, if_pos (by omega)]), hb⟩
      · have g3' : hi ≥ lo := by omega
        by_cases g4 : hi > 1073741825
        · have g4' : ¬ hi ≤ 1073741825 := by omega
          go_wp2
          go_ret
          exact ⟨ret_b (by rw [HX.out, if_pos (by omega)]), hb⟩
        · have g4' : hi ≤ 1073741825 := by omega
          go_wp2
          go_ret
          exact ⟨ret_b (by rw [HX.out, if_neg (by omega)]), hb⟩
set_option maxRecDepth 100000 in
set_option maxHeartbeats 1000000 in
theorem r_Last (s : ByteArray) (lo hi : Int) (w : World) : Calls Tryz.prog 73 #[DimV s lo hi] w fun e w' => e = .returned (.int .i64 (lastZ hi)) ∧ Below w.heap.size w w' := by
  by_cases h : hi ≤ 1073741824
  · have e1 : lastZ hi = hi := if_pos h
    rw [e1]
    go_enter Tryz.func73, Tryz.ntmps73
    go_wp2
    go_ret
    refine ⟨?_, (Below.refl _ _).alloc (Nat.le_refl _) _⟩
    first
    | rfl
    | (show Ending.returned (.int .i64 (min hi 1073741824)) = _; rw [Int.min_eq_left h])
  · have e1 : lastZ hi = 1073741824 := if_neg h
    rw [e1]
    go_enter Tryz.func73, Tryz.ntmps73
    go_wp2
    go_ret
    refine ⟨?_, (Below.refl _ _).alloc (Nat.le_refl _) _⟩
    first
    | rfl
    | (show Ending.returned (.int .i64 (min hi 1073741824)) = _; rw [Int.min_eq_right (by omega)])
end Go.Proofs.YthmnmologmmeaaaGreatDoor
end

/- The reference's error of dimensions. -/
section
namespace Go.Proofs.YthmnmologmmeaaaGreatDoor
open Go Go.RowKit Go.Deep

/-- Does one of the first k names equal s? -/
def dupTo (nm : Nat → ByteArray) (s : ByteArray) : Nat → Bool
  | 0 => false
  | k + 1 => dupTo nm s k || decide (nm k = s)
theorem dupTo_le {nm : Nat → ByteArray} {s : ByteArray} {k n : Nat} (h : dupTo nm s k = true) (hn : k ≤ n) : dupTo nm s n = true := by
  induction n with
  | zero => obtain rfl : k = 0 := by omega
            exact h
  | succ n ih =>
    by_cases e : k = n + 1
    · rw [← e]; exact h
    · rw [dupTo, ih (by omega)]; rfl
theorem dup_in (nm : Nat → ByteArray) (s : ByteArray) : ∀ k, inN (metK [] nm k) s = dupTo nm s k
  | 0 => inN_false.2 (by simp [metK])
  | k + 1 => by
    have ih := dup_in nm s k
    rw [dupTo, ← ih]
    by_cases h : nm k = s
    · rw [decide_eq_true h, Bool.or_true]
      exact inN_true.2 (by rw [metK, h]; exact List.mem_cons_self)
    · rw [decide_eq_false h, Bool.or_false]
      cases h2 : inN (metK [] nm k) s
      · exact inN_false.2 (by rw [metK]; intro h3; rcases List.mem_cons.1 h3 with h4 | h4; · exact h h4.symm
                              · exact inN_false.1 h2 h4)
      · exact inN_true.2 (by rw [metK]; exact List.mem_cons_of_mem _ (inN_true.1 h2))
theorem dimE_of (nm : Nat → ByteArray) (s : ByteArray) (k : Nat) (lo hi : Int) : dimE (metK [] nm k) s lo hi = if nameB s = false then 11 else if dupTo nm s k = true then 11 else if boundB lo hi = true then 0 else 3 := by
  rw [dimE, dup_in]
  cases h1 : nameB s
  · rfl
  · cases h2 : dupTo nm s k
    · unfold boundB
      by_cases h3 : lo < -1073741824 ∨ lo > 1073741824 ∨ hi < lo ∨ hi > 1073741825
      · rw [if_pos h3, if_pos h3]; rfl
      · rw [if_neg h3, if_neg h3]; rfl
    · rfl

theorem str_eq {s t : ByteArray} (h : (s.toList == t.toList) = true) : s = t := by
  have h1 : s.toList = t.toList := by simpa using h
  rw [ByteArray.toList_eq, ByteArray.toList_eq] at h1
  obtain ⟨⟨a⟩⟩ := s
  obtain ⟨⟨b⟩⟩ := t
  simp only at h1
  rw [h1]

set_option maxRecDepth 100000 in
set_option maxHeartbeats 4000000 in
theorem r_Dims (w : World) (A : Option Addr) (n cap : Nat) (nm : Nat → ByteArray) (lo hi : Nat → Int) (hd : DimsAt w A n nm lo hi) (hs : ∀ k, k < n → (nm k).size ≤ 9223372036854775807) (hn10 : n ≤ 1000) :
    Calls Tryz.prog 63 #[.slice A n cap] w fun e w' => e = .returned (.int .i64 (dimsZ nm lo hi n)) ∧ Below w.heap.size w w' := by
  have HD := Lib.hid hd
  have HS := Lib.hid hs
  have HNm := Lib.hid r_Name
  have HBd := Lib.hid r_bounds
  clear hd hs
  by_cases hn : n = 0 ∨ 4 < n
  · have e1 : dimsZ nm lo hi n = 13 := if_pos hn
    rw [e1]
    rcases hn with rfl | hn
    · go_enter Tryz.func63, Tryz.ntmps63
      go_wp2
      go_ret
      exact ⟨rfl, Below.refl _ _⟩
    · have h1 : ¬ (n : Int) < 1 := by omega
      have h2 : (n : Int) > 4 := by omega
      clear hn e1
      go_enter Tryz.func63, Tryz.ntmps63
      go_wp2
      go_ret
      exact ⟨rfl, Below.refl _ _⟩
  · have h1 : ¬ (n : Int) < 1 := by omega
    have h2 : ¬ (n : Int) > 4 := by omega
    have h3 : n ≤ 4 := by omega
    have HZ : Hid (dimsZ nm lo hi n = dimsTo [] nm lo hi n) := if_neg hn
    rw [HZ.out]
    clear hn HZ
    go_enter Tryz.func63, Tryz.ntmps63
    go_wp2
    go_loopw [3, 4] (fun i _ wr => ∃ k : Nat, k ≤ n ∧ i = .int .i64 k ∧ Hid (dimsTo [] nm lo hi k = 0 ∧ Below w.heap.size w wr)) (fun i _ _ => n - (intOf i).toNat)
    case atStart => exact ⟨0, Nat.zero_le _, rfl, rfl, Below.refl _ _⟩
    case round =>
      obtain ⟨k, hk, rfl, HK⟩ := hrel
      by_cases hlt : k < n
      · have HB := Lib.hid HK.out.2
        obtain ⟨bd, o, rfl, hbd, hc⟩ := (HD.out.below HB.out) (by omega)
        obtain ⟨c0, c1, c2⟩ := hc k hlt
        have HCW : Hid (∀ W, Below w.heap.size w W → W.cell? ⟨bd, o + k * 3, none⟩ = some (.string (nm k)) ∧ W.cell? ⟨bd, o + k * 3 + 1, none⟩ = some (.int .i64 (lo k)) ∧ W.cell? ⟨bd, o + k * 3 + 2, none⟩ = some (.int .i64 (hi k))) := fun W hW => by
          obtain ⟨bd', o', e1, _, hc'⟩ := (HD.out.below hW) (by omega)
          injection e1 with e1
          injection e1 with e1 e2
          subst e1 e2
          exact hc' k hlt
        clear hc
        have HT : Hid (dimsTo [] nm lo hi (k + 1) = if nameB (nm k) = false then 11 else if dupTo nm (nm k) k = true then 11 else if boundB (lo k) (hi k) = true then 0 else 3) := by show _ = _; rw [dimsTo, if_pos HK.out.1, dimE_of]
        have HE : Hid (dimsTo [] nm lo hi (k + 1) ≠ 0 → dimsTo [] nm lo hi n = dimsTo [] nm lo hi (k + 1)) := fun h => dimsTo_le h (by omega)
        have HNk := Lib.hid (fun W => HNm.out (nm k) W (HS.out k hlt))
        generalize hs9 : nm k = s at *
        have HSN := Lib.hid hs9
        clear hs9
        generalize lo k = l0 at *
        generalize hi k = h0 at *
        obtain ⟨D, hDe⟩ : ∃ D, dimsTo [] nm lo hi (k + 1) = D := ⟨_, rfl⟩
        have HDe := Lib.hid hDe
        rw [hDe] at HE HT
        clear hDe
        go_wp2_with fail
        refine (HNk.out _).mono ?_
        rintro e w1 ⟨rfl, rfl⟩
        cases hb : nameB s
        · have HD1 : Hid (dimsTo [] nm lo hi n = 11) := by
            have h9 : D = 11 := by rw [HT.out, if_pos hb]
            exact (HE.out (by rw [h9]; decide)).trans h9
          go_wp2
          go_ret
          exact ⟨by rw [HD1.out]; rfl, HB.out⟩
        · have HT2 : Hid (D = if dupTo nm s k = true then 11 else if boundB l0 h0 = true then 0 else 3) := by show _ = _; rw [HT.out, if_neg (by rw [hb]; decide)]
          clear hb HT HNk
          go_wp2
          obtain ⟨wo, rfl⟩ : ∃ wo, wo = wr := ⟨_, rfl⟩
          go_loopw [4] (fun i wr => ∃ j : Nat, j ≤ k ∧ i = .int .i64 j ∧ Hid (dupTo nm s j = false) ∧ Hid (Below w.heap.size w wr)) (fun i _ => k - (intOf i).toNat)
          case atStart => exact ⟨0, Nat.zero_le _, rfl, rfl, HB.out⟩
          case round =>
            obtain ⟨j, hj, rfl, HJ, HBj⟩ := hrel
            by_cases hlt2 : j < k
            · have HCC : Hid (∀ W, Below w.heap.size w W → W.cell? ⟨bd, o + j * 3, none⟩ = some (.string (nm j)) ∧ W.cell? ⟨bd, o + k * 3, none⟩ = some (.string s)) := fun W hW => by
                obtain ⟨bd', o', e1, _, hc'⟩ := (HD.out.below hW) (by omega)
                injection e1 with e1
                injection e1 with e1 e2
                subst e1 e2
                refine ⟨(hc' j (by omega)).1, ?_⟩
                rw [(hc' k hlt).1, HSN.out]
              obtain ⟨y0, y1⟩ := HCC.out wr HBj.out
              have HU : Hid (dupTo nm s (j + 1) = decide (nm j = s)) := by show _ = _; rw [dupTo, HJ.out, Bool.false_or]
              have HUl : Hid (dupTo nm s (j + 1) = true → dupTo nm s k = true) := fun h => dupTo_le h (by omega)
              generalize nm j = t at *
              by_cases he : t = s
              · subst he
                have HD1 : Hid (dimsTo [] nm lo hi n = 11) := by
                  have h9 : D = 11 := by rw [HT2.out, if_pos (HUl.out (by rw [HU.out, decide_eq_true rfl]))]
                  exact (HE.out (by rw [h9]; decide)).trans h9
                go_wp2
                go_quiet (fail)
                go_wp2
                go_ret
                exact ⟨by rw [HD1.out]; rfl, drewB HBj.out _⟩
              · have h5 : (t.toList == s.toList) = false := by
                  cases h6 : t.toList == s.toList
                  · rfl
                  · exact absurd (str_eq h6) he
                have HR : Hid (dupTo nm s (j + 1) = false) := by show _ = _; rw [HU.out, decide_eq_false he]
                go_wp2
                go_quiet (fail)
                go_wp2
                go_roundw
                case rel => exact ⟨j + 1, by omega, by go_num, HR.out, drewB HBj.out _⟩
                case measure => simp [intOf]; omega
            · obtain rfl : j = k := by omega
              have HT3 : Hid (D = if boundB l0 h0 = true then 0 else 3) := by show _ = _; rw [HT2.out, if_neg (by rw [HJ.out]; decide)]
              have HBk := Lib.hid (fun W => HBd.out s l0 h0 W)
              obtain ⟨k0, k1, k2⟩ := HCW.out wr HBj.out
              clear c0 c1 c2
              cases hb2 : boundB l0 h0
              · rw [hb2] at HBk
                have HD1 : Hid (dimsTo [] nm lo hi n = 3) := by
                  have h9 : D = 3 := by rw [HT3.out, if_neg (by rw [hb2]; decide)]
                  exact (HE.out (by rw [h9]; decide)).trans h9
                clear hb2
                go_wp2_with fail
                refine (HBk.out _).mono ?_
                rintro e w2 ⟨rfl, hb2⟩
                have HB2 : Hid (Below w.heap.size w w2) := st HBj.out hb2
                go_wp2
                go_ret
                exact ⟨by rw [HD1.out]; rfl, HB2.out⟩
              · rw [hb2] at HBk
                have HD1 : Hid (D = 0) := by show _ = _; rw [HT3.out, if_pos hb2]
                clear hb2
                go_wp2_with fail
                refine (HBk.out _).mono ?_
                rintro e w2 ⟨rfl, hb2⟩
                have HB2 : Hid (Below w.heap.size w w2) := st HBj.out hb2
                go_wp2
                go_roundw
                case rel => exact ⟨j + 1, by omega, by go_num, HDe.out.trans HD1.out, HB2.out⟩
                case measure => simp [intOf]; omega
      · obtain rfl : k = n := by omega
        go_wp2
        go_ret
        exact ⟨by rw [HK.out.1]; rfl, HK.out.2⟩
end Go.Proofs.YthmnmologmmeaaaGreatDoor
end

/- The reference's orders and layouts. -/
section
namespace Go.Proofs.YthmnmologmmeaaaGreatDoor
open Go Go.RowKit Go.Deep

def tileB (ord tile : Int) : Bool := if ord = 3 then decide (1 ≤ tile) && decide (tile ≤ 64) else tile == 0
theorem lay_row (w : World) (S O : Option Addr) (s sc o oc : Nat) (ord tile form codec : Int) : Below w.heap.size w (w.alloc (.cells #[.slice S s sc, .slice O o oc, .int .i64 ord, .int .i64 tile, .int .i64 form, .int .i64 codec] 54)) := (Below.refl _ _).alloc (Nat.le_refl _) _
set_option maxRecDepth 100000 in
set_option maxHeartbeats 4000000 in
theorem r_tile (S O : Option Addr) (s sc o oc : Nat) (ord tile form codec : Int) (w : World) :
    Calls Tryz.prog 111 #[LayV S s sc O o oc ord tile form codec] w fun e w' => e = .returned (.bool (tileB ord tile)) ∧ Below w.heap.size w w' := by
  have KB := Lib.hid (lay_box w S O s sc o oc ord tile form codec)
  have HB := Lib.hid (lay_row w S O s sc o oc ord tile form codec)
  obtain ⟨tb, htb⟩ : ∃ tb, tileB ord tile = tb := ⟨_, rfl⟩
  rw [htb]
  have HT := Lib.hid htb
  clear htb
  go_enter Tryz.func111, Tryz.ntmps111
  go_wp2_with fail
  generalize w.alloc (.cells #[.slice S s sc, .slice O o oc, .int .i64 ord, .int .i64 tile, .int .i64 form, .int .i64 codec] 54) = Wa at *
  obtain ⟨l0, l1, l2, l3, l4, l5⟩ := KB.out Wa (Below.refl _ _)
  go_wp2
  all_goals
    go_ret
    refine ⟨congrArg Ending.returned (congrArg Value.bool ?_), HB.out⟩
    rw [← HT.out]
    unfold tileB
    clear HT KB HB
    first | (simp_all; done) | (simp_all; omega)
theorem ord_tileB (ord tile : Int) : (decide (1 ≤ ord) && (decide (ord ≤ 3) && tileB ord tile)) = ordB ord tile := by
  unfold tileB ordB
  by_cases h12 : ord = 1 ∨ ord = 2
  · rw [if_pos h12, if_neg (by omega), decide_eq_true (by omega), decide_eq_true (by omega)]
    simp
  · rw [if_neg h12]
    by_cases h3 : ord = 3
    · rw [if_pos h3, if_pos h3, decide_eq_true (by omega), decide_eq_true (by omega)]
      simp
    · rw [if_neg h3, if_neg h3]
      by_cases h1 : 1 ≤ ord
      · rw [decide_eq_false (show ¬ ord ≤ 3 by omega)]; simp
      · rw [decide_eq_false h1]; simp
set_option maxRecDepth 100000 in
set_option maxHeartbeats 4000000 in
theorem r_order (S O : Option Addr) (s sc o oc : Nat) (ord tile form codec : Int) (w : World) :
    Calls Tryz.prog 64 #[LayV S s sc O o oc ord tile form codec] w fun e w' => e = .returned (.bool (ordB ord tile)) ∧ Below w.heap.size w w' := by
  have KB := Lib.hid (lay_box w S O s sc o oc ord tile form codec)
  have HB := Lib.hid (lay_row w S O s sc o oc ord tile form codec)
  have HTi := Lib.hid (fun W => r_tile S O s sc o oc ord tile form codec W)
  have HO := Lib.hid (ord_tileB ord tile)
  generalize ordB ord tile = ob at *
  generalize tileB ord tile = tb at *
  go_enter Tryz.func64, Tryz.ntmps64
  go_wp2_with fail
  generalize w.alloc (.cells #[.slice S s sc, .slice O o oc, .int .i64 ord, .int .i64 tile, .int .i64 form, .int .i64 codec] 54) = Wa at *
  obtain ⟨l0, l1, l2, l3, l4, l5⟩ := KB.out Wa (Below.refl _ _)
  go_wp2_with (go_at_call 111; refine (HTi.out _).mono ?_; rintro e w1 ⟨rfl, hb1⟩; have HB' : Hid (Below w.heap.size w w1) := st HB.out hb1)
  all_goals
    go_ret
    refine ⟨congrArg Ending.returned (congrArg Value.bool ?_), by first | exact HB'.out | exact HB.out⟩
    rw [← HO.out]
    clear HO HTi KB
    first | (simp_all; done) | (simp_all; omega)
end Go.Proofs.YthmnmologmmeaaaGreatDoor
end
