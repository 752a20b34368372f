/- The reference's Seq and Rank of what has no order. -/
import Derived.Test.YtogmbehomilalaaGreatDoorZSqX
namespace Go.Proofs.YtogmbehomilalaaGreatDoor
open Go Go.RowKit Go.Deep

set_option maxRecDepth 100000 in
set_option maxHeartbeats 4000000 in
theorem r_Seq_bad1 (w : World) (S O L H : Option Addr) (s sc o oc n c m d : Nat) (ord tile form codec : Int) (ho : ordB ord tile = false) :
    Calls Tryz.prog 15 #[LayV S s sc O o oc ord tile form codec, BoxW L H n c m d] w fun r w' => r = .returned (.tuple #[.slice none 0 0, .int .i64 2]) ∧ Below w.heap.size w w' := by
  have HOr : Hid (∀ W, Calls Tryz.prog 51 #[LayV S s sc O o oc ord tile form codec] W fun r w' => r = .returned (.bool false) ∧ Below W.heap.size W w') := fun W => by rw [← ho]; exact r_order S O s sc o oc ord tile form codec W
  have KB := Lib.hid (lay_box w S O s sc o oc ord tile form codec)
  have HB1 : Hid (Below w.heap.size w (w.alloc (.cells #[.slice S s sc, .slice O o oc, .int .i64 ord, .int .i64 tile, .int .i64 form, .int .i64 codec] 43))) := (Below.refl _ _).alloc (Nat.le_refl _) _
  have hz1 : (w.alloc (.cells #[.slice S s sc, .slice O o oc, .int .i64 ord, .int .i64 tile, .int .i64 form, .int .i64 codec] 43)).heap.size = w.heap.size + 1 := by simp
  go_enter Tryz.func15, Tryz.ntmps15
  go_wp2_with fail
  generalize w.alloc (.cells #[.slice S s sc, .slice O o oc, .int .i64 ord, .int .i64 tile, .int .i64 form, .int .i64 codec] 43) = Wa at *
  have K2 := Lib.hid (box_two Wa (.slice L n c) (.slice H m d) 45)
  have HB2 : Hid (Below Wa.heap.size Wa (Wa.alloc (.cells #[.slice L n c, .slice H m d] 45))) := (Below.refl _ _).alloc (Nat.le_refl _) _
  rw [hz1] at K2 HB2 KB
  have HB3 : Hid (Below w.heap.size w (Wa.alloc (.cells #[.slice L n c, .slice H m d] 45))) := Below.trans HB1.out (HB2.out.mono (by omega))
  generalize hWb : Wa.alloc (.cells #[.slice L n c, .slice H m d] 45) = Wb at *
  clear hWb
  have HK : Hid (∀ W, Below Wb.heap.size Wb W → (W.cell? ⟨w.heap.size, 0, none⟩ = some (.slice S s sc) ∧ W.cell? ⟨w.heap.size, 1, none⟩ = some (.slice O o oc) ∧ W.cell? ⟨w.heap.size, 2, none⟩ = some (.int .i64 ord) ∧ W.cell? ⟨w.heap.size, 3, none⟩ = some (.int .i64 tile) ∧ W.cell? ⟨w.heap.size, 4, none⟩ = some (.int .i64 form) ∧ W.cell? ⟨w.heap.size, 5, none⟩ = some (.int .i64 codec)) ∧ W.cell? ⟨w.heap.size + 1, 0, none⟩ = some (.slice L n c) ∧ W.cell? ⟨w.heap.size + 1, 1, none⟩ = some (.slice H m d)) := fun W hW => ⟨KB.out W (HB2.out.trans (hW.mono (by have := HB2.out.size; omega))), K2.out W hW⟩
  obtain ⟨⟨l0, l1, l2, l3, l4, l5⟩, m0, m1⟩ := HK.out Wb (Below.refl _ _)
  go_wp2_with (go_at_call 51; refine (HOr.out _).mono ?_; rintro e w1 ⟨rfl, hb1⟩; obtain ⟨-, m0, m1⟩ := HK.out w1 hb1)
  go_ret2
  exact ⟨rfl, st HB3.out hb1⟩
set_option maxRecDepth 100000 in
set_option maxHeartbeats 4000000 in
theorem r_Seq_bad2 (w : World) (S O L H : Option Addr) (s sc o oc n c m d : Nat) (ord tile form codec : Int) (ho : ordB ord tile = true) (hf : formB n m = false) :
    Calls Tryz.prog 15 #[LayV S s sc O o oc ord tile form codec, BoxW L H n c m d] w fun r w' => r = .returned (.tuple #[.slice none 0 0, .int .i64 13]) ∧ Below w.heap.size w w' := by
  have HOr : Hid (∀ W, Calls Tryz.prog 51 #[LayV S s sc O o oc ord tile form codec] W fun r w' => r = .returned (.bool true) ∧ Below W.heap.size W w') := fun W => by rw [← ho]; exact r_order S O s sc o oc ord tile form codec W
  have HFm : Hid (∀ W, Calls Tryz.prog 45 #[BoxW L H n c m d] W fun r w' => r = .returned (.bool false) ∧ Below W.heap.size W w') := fun W => by rw [← hf]; exact r_formed W L H n c m d
  have KB := Lib.hid (lay_box w S O s sc o oc ord tile form codec)
  have HB1 : Hid (Below w.heap.size w (w.alloc (.cells #[.slice S s sc, .slice O o oc, .int .i64 ord, .int .i64 tile, .int .i64 form, .int .i64 codec] 43))) := (Below.refl _ _).alloc (Nat.le_refl _) _
  have hz1 : (w.alloc (.cells #[.slice S s sc, .slice O o oc, .int .i64 ord, .int .i64 tile, .int .i64 form, .int .i64 codec] 43)).heap.size = w.heap.size + 1 := by simp
  go_enter Tryz.func15, Tryz.ntmps15
  go_wp2_with fail
  generalize w.alloc (.cells #[.slice S s sc, .slice O o oc, .int .i64 ord, .int .i64 tile, .int .i64 form, .int .i64 codec] 43) = Wa at *
  have K2 := Lib.hid (box_two Wa (.slice L n c) (.slice H m d) 45)
  have HB2 : Hid (Below Wa.heap.size Wa (Wa.alloc (.cells #[.slice L n c, .slice H m d] 45))) := (Below.refl _ _).alloc (Nat.le_refl _) _
  rw [hz1] at K2 HB2 KB
  have HB3 : Hid (Below w.heap.size w (Wa.alloc (.cells #[.slice L n c, .slice H m d] 45))) := Below.trans HB1.out (HB2.out.mono (by omega))
  generalize hWb : Wa.alloc (.cells #[.slice L n c, .slice H m d] 45) = Wb at *
  clear hWb
  have HK : Hid (∀ W, Below Wb.heap.size Wb W → (W.cell? ⟨w.heap.size, 0, none⟩ = some (.slice S s sc) ∧ W.cell? ⟨w.heap.size, 1, none⟩ = some (.slice O o oc) ∧ W.cell? ⟨w.heap.size, 2, none⟩ = some (.int .i64 ord) ∧ W.cell? ⟨w.heap.size, 3, none⟩ = some (.int .i64 tile) ∧ W.cell? ⟨w.heap.size, 4, none⟩ = some (.int .i64 form) ∧ W.cell? ⟨w.heap.size, 5, none⟩ = some (.int .i64 codec)) ∧ W.cell? ⟨w.heap.size + 1, 0, none⟩ = some (.slice L n c) ∧ W.cell? ⟨w.heap.size + 1, 1, none⟩ = some (.slice H m d)) := fun W hW => ⟨KB.out W (HB2.out.trans (hW.mono (by have := HB2.out.size; omega))), K2.out W hW⟩
  obtain ⟨⟨l0, l1, l2, l3, l4, l5⟩, m0, m1⟩ := HK.out Wb (Below.refl _ _)
  go_wp2_with (first
    | (go_at_call 51; refine (HOr.out _).mono ?_; rintro e w1 ⟨rfl, hb1⟩; obtain ⟨-, m0, m1⟩ := HK.out w1 hb1)
    | (go_at_call 45; refine (HFm.out _).mono ?_; rintro e w2 ⟨rfl, hb2⟩; have hb12 := st hb1 hb2; obtain ⟨⟨n0, n1, n2, n3, n4, n5⟩, n6, n7⟩ := HK.out w2 hb12))
  go_ret2
  exact ⟨rfl, st HB3.out hb12⟩
set_option maxRecDepth 100000 in
set_option maxHeartbeats 4000000 in
theorem r_Rank_bad1 (w : World) (S O L H : Option Addr) (s sc o oc n c m d : Nat) (ord tile form codec : Int) (X : Option Addr) (r xc : Nat) (ho : ordB ord tile = false) :
    Calls Tryz.prog 17 #[LayV S s sc O o oc ord tile form codec, BoxW L H n c m d, .slice X r xc] w fun r w' => r = .returned (.tuple #[.int .i64 0, .int .i64 2]) ∧ Below w.heap.size w w' := by
  have HOr : Hid (∀ W, Calls Tryz.prog 51 #[LayV S s sc O o oc ord tile form codec] W fun r w' => r = .returned (.bool false) ∧ Below W.heap.size W w') := fun W => by rw [← ho]; exact r_order S O s sc o oc ord tile form codec W
  have KB := Lib.hid (lay_box w S O s sc o oc ord tile form codec)
  have HB1 : Hid (Below w.heap.size w (w.alloc (.cells #[.slice S s sc, .slice O o oc, .int .i64 ord, .int .i64 tile, .int .i64 form, .int .i64 codec] 43))) := (Below.refl _ _).alloc (Nat.le_refl _) _
  have hz1 : (w.alloc (.cells #[.slice S s sc, .slice O o oc, .int .i64 ord, .int .i64 tile, .int .i64 form, .int .i64 codec] 43)).heap.size = w.heap.size + 1 := by simp
  go_enter Tryz.func17, Tryz.ntmps17
  go_wp2_with fail
  generalize w.alloc (.cells #[.slice S s sc, .slice O o oc, .int .i64 ord, .int .i64 tile, .int .i64 form, .int .i64 codec] 43) = Wa at *
  have K2 := Lib.hid (box_two Wa (.slice L n c) (.slice H m d) 45)
  have HB2 : Hid (Below Wa.heap.size Wa (Wa.alloc (.cells #[.slice L n c, .slice H m d] 45))) := (Below.refl _ _).alloc (Nat.le_refl _) _
  rw [hz1] at K2 HB2 KB
  have HB3 : Hid (Below w.heap.size w (Wa.alloc (.cells #[.slice L n c, .slice H m d] 45))) := Below.trans HB1.out (HB2.out.mono (by omega))
  generalize hWb : Wa.alloc (.cells #[.slice L n c, .slice H m d] 45) = Wb at *
  clear hWb
  have HK : Hid (∀ W, Below Wb.heap.size Wb W → (W.cell? ⟨w.heap.size, 0, none⟩ = some (.slice S s sc) ∧ W.cell? ⟨w.heap.size, 1, none⟩ = some (.slice O o oc) ∧ W.cell? ⟨w.heap.size, 2, none⟩ = some (.int .i64 ord) ∧ W.cell? ⟨w.heap.size, 3, none⟩ = some (.int .i64 tile) ∧ W.cell? ⟨w.heap.size, 4, none⟩ = some (.int .i64 form) ∧ W.cell? ⟨w.heap.size, 5, none⟩ = some (.int .i64 codec)) ∧ W.cell? ⟨w.heap.size + 1, 0, none⟩ = some (.slice L n c) ∧ W.cell? ⟨w.heap.size + 1, 1, none⟩ = some (.slice H m d)) := fun W hW => ⟨KB.out W (HB2.out.trans (hW.mono (by have := HB2.out.size; omega))), K2.out W hW⟩
  obtain ⟨⟨l0, l1, l2, l3, l4, l5⟩, m0, m1⟩ := HK.out Wb (Below.refl _ _)
  go_wp2_with (go_at_call 51; refine (HOr.out _).mono ?_; rintro e w1 ⟨rfl, hb1⟩; obtain ⟨-, m0, m1⟩ := HK.out w1 hb1)
  go_ret2
  exact ⟨rfl, st HB3.out hb1⟩
set_option maxRecDepth 100000 in
set_option maxHeartbeats 4000000 in
theorem r_Rank_bad2 (w : World) (S O L H : Option Addr) (s sc o oc n c m d : Nat) (ord tile form codec : Int) (X : Option Addr) (r xc : Nat) (ho : ordB ord tile = true) (hf : formB n m = false) :
    Calls Tryz.prog 17 #[LayV S s sc O o oc ord tile form codec, BoxW L H n c m d, .slice X r xc] w fun r w' => r = .returned (.tuple #[.int .i64 0, .int .i64 13]) ∧ Below w.heap.size w w' := by
  have HOr : Hid (∀ W, Calls Tryz.prog 51 #[LayV S s sc O o oc ord tile form codec] W fun r w' => r = .returned (.bool true) ∧ Below W.heap.size W w') := fun W => by rw [← ho]; exact r_order S O s sc o oc ord tile form codec W
  have HFm : Hid (∀ W, Calls Tryz.prog 45 #[BoxW L H n c m d] W fun r w' => r = .returned (.bool false) ∧ Below W.heap.size W w') := fun W => by rw [← hf]; exact r_formed W L H n c m d
  have KB := Lib.hid (lay_box w S O s sc o oc ord tile form codec)
  have HB1 : Hid (Below w.heap.size w (w.alloc (.cells #[.slice S s sc, .slice O o oc, .int .i64 ord, .int .i64 tile, .int .i64 form, .int .i64 codec] 43))) := (Below.refl _ _).alloc (Nat.le_refl _) _
  have hz1 : (w.alloc (.cells #[.slice S s sc, .slice O o oc, .int .i64 ord, .int .i64 tile, .int .i64 form, .int .i64 codec] 43)).heap.size = w.heap.size + 1 := by simp
  go_enter Tryz.func17, Tryz.ntmps17
  go_wp2_with fail
  generalize w.alloc (.cells #[.slice S s sc, .slice O o oc, .int .i64 ord, .int .i64 tile, .int .i64 form, .int .i64 codec] 43) = Wa at *
  have K2 := Lib.hid (box_two Wa (.slice L n c) (.slice H m d) 45)
  have HB2 : Hid (Below Wa.heap.size Wa (Wa.alloc (.cells #[.slice L n c, .slice H m d] 45))) := (Below.refl _ _).alloc (Nat.le_refl _) _
  rw [hz1] at K2 HB2 KB
  have HB3 : Hid (Below w.heap.size w (Wa.alloc (.cells #[.slice L n c, .slice H m d] 45))) := Below.trans HB1.out (HB2.out.mono (by omega))
  generalize hWb : Wa.alloc (.cells #[.slice L n c, .slice H m d] 45) = Wb at *
  clear hWb
  have HK : Hid (∀ W, Below Wb.heap.size Wb W → (W.cell? ⟨w.heap.size, 0, none⟩ = some (.slice S s sc) ∧ W.cell? ⟨w.heap.size, 1, none⟩ = some (.slice O o oc) ∧ W.cell? ⟨w.heap.size, 2, none⟩ = some (.int .i64 ord) ∧ W.cell? ⟨w.heap.size, 3, none⟩ = some (.int .i64 tile) ∧ W.cell? ⟨w.heap.size, 4, none⟩ = some (.int .i64 form) ∧ W.cell? ⟨w.heap.size, 5, none⟩ = some (.int .i64 codec)) ∧ W.cell? ⟨w.heap.size + 1, 0, none⟩ = some (.slice L n c) ∧ W.cell? ⟨w.heap.size + 1, 1, none⟩ = some (.slice H m d)) := fun W hW => ⟨KB.out W (HB2.out.trans (hW.mono (by have := HB2.out.size; omega))), K2.out W hW⟩
  obtain ⟨⟨l0, l1, l2, l3, l4, l5⟩, m0, m1⟩ := HK.out Wb (Below.refl _ _)
  go_wp2_with (first
    | (go_at_call 51; refine (HOr.out _).mono ?_; rintro e w1 ⟨rfl, hb1⟩; obtain ⟨-, m0, m1⟩ := HK.out w1 hb1)
    | (go_at_call 45; refine (HFm.out _).mono ?_; rintro e w2 ⟨rfl, hb2⟩; have hb12 := st hb1 hb2; obtain ⟨⟨n0, n1, n2, n3, n4, n5⟩, n6, n7⟩ := HK.out w2 hb12))
  go_ret2
  exact ⟨rfl, st HB3.out hb12⟩
set_option maxRecDepth 100000 in
set_option maxHeartbeats 4000000 in
theorem r_Seq_bad3 (w : World) (S O L H : Option Addr) (s sc o oc n c m d : Nat) (ord tile form codec : Int) (E : Int) (hE : E ≠ 0) (ho : ordB ord tile = true) (hf : formB n m = true) (hx : ∀ W, Below w.heap.size w W → Calls Tryz.prog 52 #[BoxW L H n c m d] W fun r w' => r = .returned (.tuple #[.slice none 0 0, .int .i64 E]) ∧ Below W.heap.size W w') :
    Calls Tryz.prog 15 #[LayV S s sc O o oc ord tile form codec, BoxW L H n c m d] w fun r w' => r = .returned (.tuple #[.slice none 0 0, .int .i64 E]) ∧ Below w.heap.size w w' := by
  have HOr : Hid (∀ W, Calls Tryz.prog 51 #[LayV S s sc O o oc ord tile form codec] W fun r w' => r = .returned (.bool true) ∧ Below W.heap.size W w') := fun W => by rw [← ho]; exact r_order S O s sc o oc ord tile form codec W
  have HFm : Hid (∀ W, Calls Tryz.prog 45 #[BoxW L H n c m d] W fun r w' => r = .returned (.bool true) ∧ Below W.heap.size W w') := fun W => by rw [← hf]; exact r_formed W L H n c m d
  have HEx := Lib.hid hx
  have hE2 : (E != 0) = true := bne_iff_ne.2 hE
  have KB := Lib.hid (lay_box w S O s sc o oc ord tile form codec)
  have HB1 : Hid (Below w.heap.size w (w.alloc (.cells #[.slice S s sc, .slice O o oc, .int .i64 ord, .int .i64 tile, .int .i64 form, .int .i64 codec] 43))) := (Below.refl _ _).alloc (Nat.le_refl _) _
  have hz1 : (w.alloc (.cells #[.slice S s sc, .slice O o oc, .int .i64 ord, .int .i64 tile, .int .i64 form, .int .i64 codec] 43)).heap.size = w.heap.size + 1 := by simp
  go_enter Tryz.func15, Tryz.ntmps15
  go_wp2_with fail
  generalize w.alloc (.cells #[.slice S s sc, .slice O o oc, .int .i64 ord, .int .i64 tile, .int .i64 form, .int .i64 codec] 43) = Wa at *
  have K2 := Lib.hid (box_two Wa (.slice L n c) (.slice H m d) 45)
  have HB2 : Hid (Below Wa.heap.size Wa (Wa.alloc (.cells #[.slice L n c, .slice H m d] 45))) := (Below.refl _ _).alloc (Nat.le_refl _) _
  rw [hz1] at K2 HB2 KB
  have HB3 : Hid (Below w.heap.size w (Wa.alloc (.cells #[.slice L n c, .slice H m d] 45))) := Below.trans HB1.out (HB2.out.mono (by omega))
  generalize hWb : Wa.alloc (.cells #[.slice L n c, .slice H m d] 45) = Wb at *
  clear hWb
  have HK : Hid (∀ W, Below Wb.heap.size Wb W → (W.cell? ⟨w.heap.size, 0, none⟩ = some (.slice S s sc) ∧ W.cell? ⟨w.heap.size, 1, none⟩ = some (.slice O o oc) ∧ W.cell? ⟨w.heap.size, 2, none⟩ = some (.int .i64 ord) ∧ W.cell? ⟨w.heap.size, 3, none⟩ = some (.int .i64 tile) ∧ W.cell? ⟨w.heap.size, 4, none⟩ = some (.int .i64 form) ∧ W.cell? ⟨w.heap.size, 5, none⟩ = some (.int .i64 codec)) ∧ W.cell? ⟨w.heap.size + 1, 0, none⟩ = some (.slice L n c) ∧ W.cell? ⟨w.heap.size + 1, 1, none⟩ = some (.slice H m d)) := fun W hW => ⟨KB.out W (HB2.out.trans (hW.mono (by have := HB2.out.size; omega))), K2.out W hW⟩
  obtain ⟨⟨l0, l1, l2, l3, l4, l5⟩, m0, m1⟩ := HK.out Wb (Below.refl _ _)
  go_wp2_with (first
    | (go_at_call 51; refine (HOr.out _).mono ?_; rintro e w1 ⟨rfl, hb1⟩; obtain ⟨-, m0, m1⟩ := HK.out w1 hb1)
    | (go_at_call 45; refine (HFm.out _).mono ?_; rintro e w2 ⟨rfl, hb2⟩; have hb12 := st hb1 hb2; obtain ⟨⟨n0, n1, n2, n3, n4, n5⟩, n6, n7⟩ := HK.out w2 hb12)
    | (go_at_call 52; refine (HEx.out w2 (st HB3.out hb12)).mono ?_; rintro e w3 ⟨rfl, hb3⟩))
  go_ret2
  exact ⟨rfl, st HB3.out (st hb12 hb3)⟩
set_option maxRecDepth 100000 in
set_option maxHeartbeats 4000000 in
theorem r_Rank_bad2b (w : World) (S O L H : Option Addr) (s sc o oc n c m d : Nat) (ord tile form codec : Int) (X : Option Addr) (r xc : Nat) (ho : ordB ord tile = true) (hf : formB n m = true) (hr : r ≠ n) :
    Calls Tryz.prog 17 #[LayV S s sc O o oc ord tile form codec, BoxW L H n c m d, .slice X r xc] w fun r w' => r = .returned (.tuple #[.int .i64 0, .int .i64 13]) ∧ Below w.heap.size w w' := by
  have HOr : Hid (∀ W, Calls Tryz.prog 51 #[LayV S s sc O o oc ord tile form codec] W fun r w' => r = .returned (.bool true) ∧ Below W.heap.size W w') := fun W => by rw [← ho]; exact r_order S O s sc o oc ord tile form codec W
  have HFm : Hid (∀ W, Calls Tryz.prog 45 #[BoxW L H n c m d] W fun r w' => r = .returned (.bool true) ∧ Below W.heap.size W w') := fun W => by rw [← hf]; exact r_formed W L H n c m d
  have hr2 : ¬ (r : Int) = (n : Int) := by omega
  have hr3 : ((r : Int) != (n : Int)) = true := bne_iff_ne.2 hr2
  have KB := Lib.hid (lay_box w S O s sc o oc ord tile form codec)
  have HB1 : Hid (Below w.heap.size w (w.alloc (.cells #[.slice S s sc, .slice O o oc, .int .i64 ord, .int .i64 tile, .int .i64 form, .int .i64 codec] 43))) := (Below.refl _ _).alloc (Nat.le_refl _) _
  have hz1 : (w.alloc (.cells #[.slice S s sc, .slice O o oc, .int .i64 ord, .int .i64 tile, .int .i64 form, .int .i64 codec] 43)).heap.size = w.heap.size + 1 := by simp
  go_enter Tryz.func17, Tryz.ntmps17
  go_wp2_with fail
  generalize w.alloc (.cells #[.slice S s sc, .slice O o oc, .int .i64 ord, .int .i64 tile, .int .i64 form, .int .i64 codec] 43) = Wa at *
  have K2 := Lib.hid (box_two Wa (.slice L n c) (.slice H m d) 45)
  have HB2 : Hid (Below Wa.heap.size Wa (Wa.alloc (.cells #[.slice L n c, .slice H m d] 45))) := (Below.refl _ _).alloc (Nat.le_refl _) _
  rw [hz1] at K2 HB2 KB
  have HB3 : Hid (Below w.heap.size w (Wa.alloc (.cells #[.slice L n c, .slice H m d] 45))) := Below.trans HB1.out (HB2.out.mono (by omega))
  generalize hWb : Wa.alloc (.cells #[.slice L n c, .slice H m d] 45) = Wb at *
  clear hWb
  have HK : Hid (∀ W, Below Wb.heap.size Wb W → (W.cell? ⟨w.heap.size, 0, none⟩ = some (.slice S s sc) ∧ W.cell? ⟨w.heap.size, 1, none⟩ = some (.slice O o oc) ∧ W.cell? ⟨w.heap.size, 2, none⟩ = some (.int .i64 ord) ∧ W.cell? ⟨w.heap.size, 3, none⟩ = some (.int .i64 tile) ∧ W.cell? ⟨w.heap.size, 4, none⟩ = some (.int .i64 form) ∧ W.cell? ⟨w.heap.size, 5, none⟩ = some (.int .i64 codec)) ∧ W.cell? ⟨w.heap.size + 1, 0, none⟩ = some (.slice L n c) ∧ W.cell? ⟨w.heap.size + 1, 1, none⟩ = some (.slice H m d)) := fun W hW => ⟨KB.out W (HB2.out.trans (hW.mono (by have := HB2.out.size; omega))), K2.out W hW⟩
  obtain ⟨⟨l0, l1, l2, l3, l4, l5⟩, m0, m1⟩ := HK.out Wb (Below.refl _ _)
  go_wp2_with (first
    | (go_at_call 51; refine (HOr.out _).mono ?_; rintro e w1 ⟨rfl, hb1⟩; obtain ⟨-, m0, m1⟩ := HK.out w1 hb1)
    | (go_at_call 45; refine (HFm.out _).mono ?_; rintro e w2 ⟨rfl, hb2⟩; have hb12 := st hb1 hb2; obtain ⟨⟨n0, n1, n2, n3, n4, n5⟩, n6, n7⟩ := HK.out w2 hb12))
  go_ret2
  exact ⟨rfl, st HB3.out hb12⟩
set_option maxRecDepth 100000 in
set_option maxHeartbeats 4000000 in
theorem r_Rank_bad3 (w : World) (S O L H : Option Addr) (s sc o oc n c m d : Nat) (ord tile form codec : Int) (X : Option Addr) (xc : Nat) (E : Int) (hE : E ≠ 0) (ho : ordB ord tile = true) (hf : formB n m = true) (hx : ∀ W, Below w.heap.size w W → Calls Tryz.prog 15 #[LayV S s sc O o oc ord tile form codec, BoxW L H n c m d] W fun r w' => r = .returned (.tuple #[.slice none 0 0, .int .i64 E]) ∧ Below W.heap.size W w') :
    Calls Tryz.prog 17 #[LayV S s sc O o oc ord tile form codec, BoxW L H n c m d, .slice X n xc] w fun r w' => r = .returned (.tuple #[.int .i64 0, .int .i64 E]) ∧ Below w.heap.size w w' := by
  have HOr : Hid (∀ W, Calls Tryz.prog 51 #[LayV S s sc O o oc ord tile form codec] W fun r w' => r = .returned (.bool true) ∧ Below W.heap.size W w') := fun W => by rw [← ho]; exact r_order S O s sc o oc ord tile form codec W
  have HFm : Hid (∀ W, Calls Tryz.prog 45 #[BoxW L H n c m d] W fun r w' => r = .returned (.bool true) ∧ Below W.heap.size W w') := fun W => by rw [← hf]; exact r_formed W L H n c m d
  have HSq := Lib.hid hx
  have hE2 : (E != 0) = true := bne_iff_ne.2 hE
  have KB := Lib.hid (lay_box w S O s sc o oc ord tile form codec)
  have HB1 : Hid (Below w.heap.size w (w.alloc (.cells #[.slice S s sc, .slice O o oc, .int .i64 ord, .int .i64 tile, .int .i64 form, .int .i64 codec] 43))) := (Below.refl _ _).alloc (Nat.le_refl _) _
  have hz1 : (w.alloc (.cells #[.slice S s sc, .slice O o oc, .int .i64 ord, .int .i64 tile, .int .i64 form, .int .i64 codec] 43)).heap.size = w.heap.size + 1 := by simp
  go_enter Tryz.func17, Tryz.ntmps17
  go_wp2_with fail
  generalize w.alloc (.cells #[.slice S s sc, .slice O o oc, .int .i64 ord, .int .i64 tile, .int .i64 form, .int .i64 codec] 43) = Wa at *
  have K2 := Lib.hid (box_two Wa (.slice L n c) (.slice H m d) 45)
  have HB2 : Hid (Below Wa.heap.size Wa (Wa.alloc (.cells #[.slice L n c, .slice H m d] 45))) := (Below.refl _ _).alloc (Nat.le_refl _) _
  rw [hz1] at K2 HB2 KB
  have HB3 : Hid (Below w.heap.size w (Wa.alloc (.cells #[.slice L n c, .slice H m d] 45))) := Below.trans HB1.out (HB2.out.mono (by omega))
  generalize hWb : Wa.alloc (.cells #[.slice L n c, .slice H m d] 45) = Wb at *
  clear hWb
  have HK : Hid (∀ W, Below Wb.heap.size Wb W → (W.cell? ⟨w.heap.size, 0, none⟩ = some (.slice S s sc) ∧ W.cell? ⟨w.heap.size, 1, none⟩ = some (.slice O o oc) ∧ W.cell? ⟨w.heap.size, 2, none⟩ = some (.int .i64 ord) ∧ W.cell? ⟨w.heap.size, 3, none⟩ = some (.int .i64 tile) ∧ W.cell? ⟨w.heap.size, 4, none⟩ = some (.int .i64 form) ∧ W.cell? ⟨w.heap.size, 5, none⟩ = some (.int .i64 codec)) ∧ W.cell? ⟨w.heap.size + 1, 0, none⟩ = some (.slice L n c) ∧ W.cell? ⟨w.heap.size + 1, 1, none⟩ = some (.slice H m d)) := fun W hW => ⟨KB.out W (HB2.out.trans (hW.mono (by have := HB2.out.size; omega))), K2.out W hW⟩
  obtain ⟨⟨l0, l1, l2, l3, l4, l5⟩, m0, m1⟩ := HK.out Wb (Below.refl _ _)
  go_wp2_with (first
    | (go_at_call 51; refine (HOr.out _).mono ?_; rintro e w1 ⟨rfl, hb1⟩; obtain ⟨-, m0, m1⟩ := HK.out w1 hb1)
    | (go_at_call 45; refine (HFm.out _).mono ?_; rintro e w2 ⟨rfl, hb2⟩; have hb12 := st hb1 hb2; obtain ⟨⟨n0, n1, n2, n3, n4, n5⟩, n6, n7⟩ := HK.out w2 hb12)
    | (go_at_call 15; refine (HSq.out w2 (st HB3.out hb12)).mono ?_; rintro e w3 ⟨rfl, hb3⟩))
  go_ret2
  exact ⟨rfl, st HB3.out (st hb12 hb3)⟩
end Go.Proofs.YtogmbehomilalaaGreatDoor
