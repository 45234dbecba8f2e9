
/- TreeValid of the program and the model, and its law. -/
import Derived.Test.YtkiaafpggjojiaaDoorKsTreeE
import Derived.Test.YtkiaafpggjojiaaDoorKsTreeK
namespace Go.Proofs.YtkiaafpggjojiaaDoor
open Go.RowKit Go.Lib Go.Shelf

set_option maxHeartbeats 400000 in
theorem implTreeValid_any (s : ByteArray) (w : World) (hV : VarsAt w) : Calls Tryd.prog 15 #[.string s] w fun x w' => x = .returned (.bool (treeS (ls s)).isSome) ∧ Below w.heap.size w w' := by
  have HC := Lib.hid (implRead_any s w hV)
  clear hV
  cases ho : treeS (ls s) with
  | none =>
    rw [ho] at HC
    go_enter Tryd.func15, Tryd.ntmps15
    go_wp2_with fail
    refine HC.out.mono ?_
    rintro x w' ⟨hx, hb⟩
    obtain rfl : x = .returned (.tuple #[.nilIface, .bool false]) := hx
    have HB := Lib.hid hb
    clear hb
    go_wp2
    go_ret
    exact ⟨rfl, HB.out⟩
  | some t =>
    rw [ho] at HC
    go_enter Tryd.func15, Tryd.ntmps15
    go_wp2_with fail
    refine HC.out.mono ?_
    rintro x w' ⟨⟨v, rfl, ht⟩, hb⟩
    obtain ⟨T, u, rfl⟩ := ht.iface
    have HB := Lib.hid hb
    clear hb ht
    go_wp2
    go_ret
    exact ⟨rfl, HB.out⟩
set_option maxHeartbeats 400000 in
theorem specTreeValid_any (s : ByteArray) (hs : s.size ≤ 2000000) (w : World) : Calls Tryd.prog 14 #[.string s] w fun x w' => x = .returned (.bool (treeS (ls s)).isSome) ∧ Below w.heap.size w w' := by
  have HC := Lib.hid (specRead_any s hs w)
  cases ho : treeS (ls s) with
  | none =>
    rw [ho] at HC
    go_enter Tryd.func14, Tryd.ntmps14
    go_wp2_with fail
    refine HC.out.mono ?_
    rintro x w' ⟨hx, hb⟩
    obtain rfl : x = .returned (.tuple #[.agg #[.string ⟨#[]⟩, .int .i64 0, .slice none 0 0], .bool false]) := hx
    have HB := Lib.hid hb
    clear hb
    go_wp2
    go_ret
    exact ⟨rfl, HB.out.alloc HB.out.size _⟩
  | some t =>
    rw [ho] at HC
    go_enter Tryd.func14, Tryd.ntmps14
    go_wp2_with fail
    refine HC.out.mono ?_
    rintro x w' ⟨⟨tg, k, sd, rfl, ht⟩, hb⟩
    obtain ⟨a, n, c, rfl⟩ := ht.slice
    have HB := Lib.hid hb
    clear hb ht
    go_wp2
    go_ret
    exact ⟨rfl, HB.out.alloc HB.out.size _⟩

end Go.Proofs.YtkiaafpggjojiaaDoor
