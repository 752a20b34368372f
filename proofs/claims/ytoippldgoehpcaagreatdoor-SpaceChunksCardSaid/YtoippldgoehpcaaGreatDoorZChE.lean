/- Chunks that are none: the errors of Homes and Wide. -/
import Derived.Test.YtoippldgoehpcaaGreatDoorZChB
import Derived.Test.YtoippldgoehpcaaGreatDoorZSpJ
namespace Go.Proofs.YtoippldgoehpcaaGreatDoor
open Go Go.RowKit Go.Deep

set_option maxRecDepth 100000 in
set_option maxHeartbeats 4000000 in
theorem s_Homes_bad (w : World) (A S O X : Option Addr) (n cap s sc o oc m mc : Nat) (nm : Nat → ByteArray) (lo hi sd ov xs : Nat → Int) (ord tile form codec : Int) (hd : DimsAt w A n nm lo hi) (hs : IntsAt w S s sd) (ho : IntsAt w O o ov) (hx : IntsAt w X m xs) (hs1 : s ≤ 1000) (ho1 : o ≤ 1000) (hn1 : n ≤ 1000) (hm1 : m ≤ 1000)
    (he : atE nm lo hi n sd ov s o ord tile form codec xs m ≠ 0) :
    Calls Tryz.prog 49 #[.slice A n cap, LayV S s sc O o oc ord tile form codec, .slice X m mc] w fun e w' => e = .returned (.tuple #[.slice none 0 0, .int .i64 (atE nm lo hi n sd ov s o ord tile form codec xs m)]) ∧ Below w.heap.size w w' := by
  have KB := Lib.hid (lay_box w S O s sc o oc ord tile form codec)
  have HB : Hid (Below w.heap.size w (w.alloc (.cells #[.slice S s sc, .slice O o oc, .int .i64 ord, .int .i64 tile, .int .i64 form, .int .i64 codec] 75))) := (Below.refl _ _).alloc (Nat.le_refl _) _
  have HA := Lib.hid (s_atError (w.alloc (.cells #[.slice S s sc, .slice O o oc, .int .i64 ord, .int .i64 tile, .int .i64 form, .int .i64 codec] 75)) A S O X n cap s sc o oc m mc nm lo hi sd ov xs ord tile form codec (hd.below HB.out) (hs.below HB.out) (ho.below HB.out) (hx.below HB.out) hs1 ho1 hn1 hm1)
  generalize atE nm lo hi n sd ov s o ord tile form codec xs m = E at *
  have h1 : (E != 0) = true := by rw [bne_iff_ne]; exact he
  clear hd hs ho hx he
  go_enter Tryz.func49, Tryz.ntmps49
  go_wp2_with fail
  generalize w.alloc (.cells #[.slice S s sc, .slice O o oc, .int .i64 ord, .int .i64 tile, .int .i64 form, .int .i64 codec] 75) = W0 at *
  obtain ⟨l0, l1, l2, l3, l4, l5⟩ := KB.out W0 (Below.refl _ _)
  go_wp2_with fail
  refine HA.out.mono ?_
  rintro e w1 ⟨rfl, hb1⟩
  have HB1 : Hid (Below w.heap.size w w1) := st HB.out hb1
  clear hb1 HA l0 l1 l2 l3 l4 l5
  go_wp2
  go_ret2
  exact ⟨rfl, HB1.out⟩

set_option maxRecDepth 100000 in
set_option maxHeartbeats 4000000 in
theorem s_Wide_far (w : World) (A S O X : Option Addr) (n cap s sc o oc m mc : Nat) (nm : Nat → ByteArray) (lo hi sd ov c : Nat → Int) (ord tile form codec : Int) (hd : DimsAt w A n nm lo hi) (hs : IntsAt w S s sd) (ho : IntsAt w O o ov) (hx : IntsAt w X m c) (hs1 : s ≤ 1000) (ho1 : o ≤ 1000) (hn1 : n ≤ 1000) (hm1 : m ≤ 1000)
    (h0 : layE nm lo hi n sd ov s o ord tile form codec = 0) (hmn : m = n) (hfar : cinTo lo hi sd c n = false) :
    Calls Tryz.prog 55 #[.slice A n cap, LayV S s sc O o oc ord tile form codec, .slice X m mc] w fun e w' => e = .returned (.tuple #[BoxV none none 0 0 0 0, .int .i64 3]) ∧ Below w.heap.size w w' := by
  have KB := Lib.hid (lay_box w S O s sc o oc ord tile form codec)
  have HB : Hid (Below w.heap.size w (w.alloc (.cells #[.slice S s sc, .slice O o oc, .int .i64 ord, .int .i64 tile, .int .i64 form, .int .i64 codec] 75))) := (Below.refl _ _).alloc (Nat.le_refl _) _
  have HC := Lib.hid (fun W h1 h2 h3 h4 => s_Core_far W A S O X n cap s sc o oc m mc nm lo hi sd ov c ord tile form codec h1 h2 h3 h4 hs1 ho1 hn1 hm1 h0 hmn hfar)
  have HLL := Lib.hid s_last
  obtain rfl := hmn
  obtain ⟨rfl, rfl, _, hn4, hf⟩ := lay_facts h0
  have HF := Lib.hid hf
  have HD := Lib.hid hd
  have HS := Lib.hid hs
  have HO := Lib.hid ho
  have HX := Lib.hid hx
  clear hd hs ho hx h0 hfar hf
  go_enter Tryz.func55, Tryz.ntmps55
  go_wp2_with fail
  have hz0 : ((w.alloc (.cells #[.slice S o sc, .slice O o oc, .int .i64 ord, .int .i64 tile, .int .i64 form, .int .i64 codec] 75)).alloc (.cells #[.slice none 0 0, .slice none 0 0] 66)).heap.size = w.heap.size + 2 := by simp
  have KB2 : Hid (∀ W, Below (w.heap.size + 2) ((w.alloc (.cells #[.slice S o sc, .slice O o oc, .int .i64 ord, .int .i64 tile, .int .i64 form, .int .i64 codec] 75)).alloc (.cells #[.slice none 0 0, .slice none 0 0] 66)) W → (W.cell? ⟨w.heap.size, 0, none⟩ = some (.slice S o sc) ∧ W.cell? ⟨w.heap.size, 1, none⟩ = some (.slice O o oc)) ∧ W.heap[w.heap.size + 1]? = some (.cells #[.slice none 0 0, .slice none 0 0] 66 (0, 0))) := fun W hW => by
    have k1 := KB.out W (Below.trans ((Below.refl _ _).alloc (Nat.le_refl _) _) (hW.mono (by simp)))
    refine ⟨⟨k1.1, k1.2.1⟩, ?_⟩
    have h9 := heap_alloc_new (w.alloc (.cells #[.slice S o sc, .slice O o oc, .int .i64 ord, .int .i64 tile, .int .i64 form, .int .i64 codec] 75)) (.cells #[.slice none 0 0, .slice none 0 0] 66)
    rw [World.size_alloc] at h9
    exact (hW.block _ (by omega)).trans h9
  have HB2 : Hid (Below w.heap.size w ((w.alloc (.cells #[.slice S o sc, .slice O o oc, .int .i64 ord, .int .i64 tile, .int .i64 form, .int .i64 codec] 75)).alloc (.cells #[.slice none 0 0, .slice none 0 0] 66))) := HB.out.alloc (by simp) _
  clear KB HB
  generalize (w.alloc (.cells #[.slice S o sc, .slice O o oc, .int .i64 ord, .int .i64 tile, .int .i64 form, .int .i64 codec] 75)).alloc (.cells #[.slice none 0 0, .slice none 0 0] 66) = W0 at *
  refine (HC.out _ (HD.out.below HB2.out) (HS.out.below HB2.out) (HO.out.below HB2.out) (HX.out.below HB2.out)).mono ?_
  rintro e w1 ⟨rfl, hb1⟩
  have HB1 : Hid (Below w.heap.size w w1) := st HB2.out hb1
  have HB01 : Hid (Below (w.heap.size + 2) W0 w1) := by show Below _ _ _; rw [← hz0]; exact hb1
  have hz1 : w.heap.size + 2 ≤ w1.heap.size := by rw [← hz0]; exact hb1.size
  clear hb1 HC
  have HB21 : Hid (Below (w.heap.size + 2) W0 (w1.alloc (.cells #[.slice none 0 0, .slice none 0 0] 66))) := HB01.out.alloc hz1 _
  have HBX : Hid (Below w.heap.size w (w1.alloc (.cells #[.slice none 0 0, .slice none 0 0] 66))) := HB1.out.alloc (by omega) _
  have hres := (KB2.out _ HB21.out).2
  obtain ⟨r0, r9, z0, z1⟩ := box_at hres
  go_wp2
  refine bodyPost_ret (v := .tuple #[BoxV none none 0 0 0 0, .int .i64 3]) (res_cell_tmp Tryz.results55 _ _ (w.heap.size + 1) 66 _ (0, 0) _ rfl (put2 hres _ _) Tryz.underlying66 rfl (by rw [info_box]; rfl)) rfl ?_
  exact ⟨rfl, (HBX.out.setCell (p := ⟨w.heap.size + 1, 0, none⟩) (by show w.heap.size ≤ w.heap.size + 1; omega) _).setCell (p := ⟨w.heap.size + 1, 1, none⟩) (by show w.heap.size ≤ w.heap.size + 1; omega) _⟩
end Go.Proofs.YtoippldgoehpcaaGreatDoor
