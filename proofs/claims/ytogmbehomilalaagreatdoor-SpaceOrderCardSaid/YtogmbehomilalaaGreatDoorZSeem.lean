/- The operation that chooses by a Boolean, at the chapter's example; operations that are not done. -/
import Derived.Test.YtogmbehomilalaaGreatDoorZDo
import Derived.Laws.Rows
import Derived.Test.YtogmbehomilalaaGreatDoorShelf

/- The operation that chooses by a Boolean, at the chapter's example; operations that are not done. -/
section
namespace Go.Proofs.YtogmbehomilalaaGreatDoor
open Go.RowKit Go.Deep

end Go.Proofs.YtogmbehomilalaaGreatDoor
end

/- An operation that is not done on values of other kinds. -/
section
namespace Go.Proofs.YtogmbehomilalaaGreatDoor
open Go.RowKit Go.Deep

end Go.Proofs.YtogmbehomilalaaGreatDoor
end

/- Numbers of values, and values of numbers. -/
section
namespace Go.Proofs.YtogmbehomilalaaGreatDoor
open Go.RowKit Go.Deep

set_option maxRecDepth 100000 in
set_option maxHeartbeats 4000000 in
theorem c_rat (w : World) (n d : Int) (h : Low n d) :
    Calls Tryz.prog 130 #[V 2 n d noS] w (RatRet w (sgn (decide (n < 0)) n.natAbs) n.natAbs d.natAbs) := by
  obtain ⟨W, b, hW, hb, hlt, hbel, K⟩ := box_facts w 2 n d noS
  have HW := Lib.hid hW
  have HB := Lib.hid hb
  obtain ⟨h1, h2, h3, h4, _⟩ := h
  have HA := Lib.hid (fun X => c_absolute n X (by omega) (by omega))
  have HN := Lib.hid (fun X => n_word X n.natAbs (by unfold W64; omega))
  have HD : Hid (∀ X, Calls Tryz.prog 164 #[.int .u64 d] X (NatRet X d.natAbs)) := fun X => by
    have h9 := n_word X d.natAbs (by unfold W64; omega)
    rw [show U d.natAbs = .int .u64 d from by show Value.int _ _ = _; congr 1; omega] at h9
    exact h9
  have HD2 : Hid (∀ X, Calls Tryz.prog 164 #[.int .u64 (IntKind.u64.wrap d)] X (NatRet X d.natAbs)) := fun X => by
    have h9 := HD.out X
    rw [show Value.int .u64 d = .int .u64 (IntKind.u64.wrap d) from by rw [IntKind.wrap_u64]; congr 1; omega] at h9
    exact h9
  clear hW hb
  go_enter Tryz.func130, Tryz.ntmps130
  go_wp2_with fail
  rw [HW.out, HB.out]
  rw [HB.out] at hbel
  have B0 : Below W.heap.size W W.drew := Below.drew (Below.refl _ _)
  go_region_held3 (fun w' => w'.cell? ⟨b, 0, none⟩ = some (.int .i64 2) ∧ w'.cell? ⟨b, 1, none⟩ = some (.int .i64 n) ∧ w'.cell? ⟨b, 2, none⟩ = some (.int .i64 d) ∧ w'.cell? ⟨b, 3, none⟩ = some (.string noS))
    (first | exact K.out _ BM | exact K.out _ BD | exact K.out _ BN | exact K.out _ B0 | exact K.out _ (Below.refl _ _)) (first
      | (go_at_call 165; refine (HA.out _).mono ?_; rintro e w' ⟨rfl, rfl⟩)
      | (go_at_call_of 164 n; refine (HN.out _).mono ?_; rintro e w1 ⟨u, rfl, hu, hb1⟩; have BN : Below W.heap.size W w1 := (by first | exact btr BD hb1 | exact btr B0 hb1))
      | (go_at_call_of 164 d; refine (HD.out _).mono ?_; rintro e w2 ⟨u', rfl, hu', hb2⟩; have BD : Below W.heap.size W w2 := (by first | exact btr BN hb2 | exact btr B0 hb2))
      | (go_at_call_of 164 d; refine (HD2.out _).mono ?_; rintro e w2 ⟨u', rfl, hu', hb2⟩; have BD : Below W.heap.size W w2 := (by first | exact btr BN hb2 | exact btr B0 hb2))
      | (go_at_call 163; refine (c_made _ u u' (decide (n < 0)) _ _ (by first | exact hu.below hb2 | exact hu) (by first | exact hu'.below hb1 | exact hu')).mono ?_; rintro e w3 ⟨rr, rfl, hrr, hb3⟩; have BM : Below W.heap.size W w3 := (by first | exact btr BD hb3 | exact btr BN hb3)))
  all_goals
    go_wp2
    go_ret
    refine ⟨rr, rfl, hrr, ?_⟩
    have e9 := HB.out
    rw [e9]
    exact hbel.trans (BM.mono (by have := hbel.size; omega))
end Go.Proofs.YtogmbehomilalaaGreatDoor
end

/- The chapter's examples of sums and quotients of values. -/
section
namespace Go.Proofs.YtogmbehomilalaaGreatDoor
open Go.RowKit Go.Deep

end Go.Proofs.YtogmbehomilalaaGreatDoor
end

/- The operations' runs at the chapter's examples. -/
section
namespace Go.Proofs.YtogmbehomilalaaGreatDoor
open Go.RowKit Go.Deep

end Go.Proofs.YtogmbehomilalaaGreatDoor
end

/- The examples of operations: what does returns, for whatever Do returns. -/
section
namespace Go.Proofs.YtogmbehomilalaaGreatDoor
open Go.RowKit Go.Deep

def At (w : World) (b : Nat) (l : List (Int × Int × Int × ByteArray)) : Prop := b < w.heap.size ∧ ∀ j (h : j < l.length), ValIn w b (4 * j) l[j].1 l[j].2.1 l[j].2.2.1 l[j].2.2.2
theorem At.below {w W : World} {b : Nat} {l : List (Int × Int × Int × ByteArray)} (h : At w b l) (hW : Below w.heap.size w W) : At W b l :=
  ⟨Nat.lt_of_lt_of_le h.1 hW.size, fun j hj => (h.2 j hj).below hW h.1⟩

end Go.Proofs.YtogmbehomilalaaGreatDoor
end

/- The string of a text with a quote in it, and of a value that is none. -/
section
namespace Go.Proofs.YtogmbehomilalaaGreatDoor
open Go.RowKit Go.Deep

end Go.Proofs.YtogmbehomilalaaGreatDoor
end

/- Reading a string that is not one of a number in lowest terms. -/
section
namespace Go.Proofs.YtogmbehomilalaaGreatDoor
open Go.RowKit Go.Deep


end Go.Proofs.YtogmbehomilalaaGreatDoor
end

/- Reading a string that is not one of a value. -/
section
namespace Go.Proofs.YtogmbehomilalaaGreatDoor
open Go.RowKit Go.Deep

end Go.Proofs.YtogmbehomilalaaGreatDoor
end
