
/- RunTree of the program and the model. -/
import Derived.Test.YtkiaafpggjojiaaDoorKsTreeO
namespace Go.Proofs.YtkiaafpggjojiaaDoor
open Go.RowKit Go.Shelf

def trS (o : Option TreeD) (key : Int) : ByteArray := match o with | none => ⟨#[]⟩ | some t => if keyB key = true then ⟨#[(trT t key).1]⟩ else ⟨#[]⟩
def trN (o : Option TreeD) (key : Int) : Int := match o with | none => 0 | some t => if keyB key = true then ((trT t key).2 : Int) else 0
def trB (o : Option TreeD) (key : Int) : Bool := o.isSome && keyB key
theorem ret3r {a b : ByteArray} {n m : Int} {p q : Bool} (h1 : a = b) (h2 : n = m) (h3 : p = q) : Ending.returned (.tuple #[.string a, .int .i64 n, .bool p]) = .returned (.tuple #[.string b, .int .i64 m, .bool q]) := by rw [h1, h2, h3]
set_option maxHeartbeats 400000 in
theorem l1KeyT_any (n : Int) (w : World) : Calls Tryd.prog 49 #[.int .i64 n] w fun e w' => e = .returned (.bool (keyB n)) ∧ w = w' := by
  have hcall : ∀ W, Calls Tryd.prog 88 #[.int .i64 n, .int .i64 0, .int .i64 31] W fun e w' => e = .returned (.bool (keyB n)) ∧ W = w' := fun W => l1In_any n 0 31 W
  have HCL := Lib.hid hcall
  clear hcall
  go_enter Tryd.func49, Tryd.ntmps49
  go_wp2_with (go_at_call 88; refine (HCL.out _).mono ?_; rintro y w2 ⟨rfl, rfl⟩)
  go_ret
  exact ⟨rfl, rfl⟩

set_option maxRecDepth 100000 in
set_option maxHeartbeats 1000000 in
theorem implRunTree_any (s : ByteArray) (key : Int) (w : World) (hV : VarsAt w) : Calls Tryd.prog 17 #[.string s, .int .i64 key] w fun x w' => x = .returned (.tuple #[.string (trS (treeS (ls s)) key), .int .i64 (trN (treeS (ls s)) key), .bool (trB (treeS (ls s)) key)]) ∧ Below w.heap.size w w' := by
  have HC := Lib.hid (implRead_any s w hV)
  clear hV
  cases ho : treeS (ls s) with
  | none =>
    rw [ho] at HC
    go_enter Tryd.func17, Tryd.ntmps17
    go_wp2_with fail
    refine HC.out.mono ?_
    rintro x w' ⟨hx, hb⟩
    obtain rfl : x = .returned (.tuple #[.nilIface, .bool false]) := hx
    have HB := Lib.hid hb
    clear hb
    go_wp2_with (go_at_call 51; refine (isKey_any _ _).mono ?_; rintro e w' ⟨rfl, rfl⟩)
    go_ret3
    exact ⟨rfl, HB.out⟩
  | some t =>
    rw [ho] at HC
    have hct := treeS_count ho
    cases hk : keyB key with
    | false =>
      have H1 := Lib.hid (show trS (some t) key = ⟨#[]⟩ ∧ trN (some t) key = 0 ∧ trB (some t) key = false by simp [trS, trN, trB, hk])
      go_enter Tryd.func17, Tryd.ntmps17
      go_wp2_with fail
      refine HC.out.mono ?_
      rintro x w1 ⟨⟨v, rfl, ht⟩, hb⟩
      obtain ⟨T, u, rfl⟩ := ht.iface
      have HB := Lib.hid hb
      clear hb ht
      go_wp2_with (go_at_call 51; refine (isKey_any _ _).mono ?_; rintro e w' ⟨rfl, rfl⟩)
      go_ret3
      exact ⟨ret3r H1.out.1.symm H1.out.2.1.symm H1.out.2.2.symm, HB.out⟩
    | true =>
      have H1 := Lib.hid (show trS (some t) key = ⟨#[(trT t key).1]⟩ ∧ trN (some t) key = ((trT t key).2 : Int) ∧ trB (some t) key = true by simp [trS, trN, trB, hk])
      have HF := Lib.hid (fun b w v h => find_any key t (by omega) b w v h)
      obtain ⟨c, hc⟩ : ∃ c, c = (trT t key).1 := ⟨_, rfl⟩
      obtain ⟨n, hn⟩ : ∃ n, n = (trT t key).2 := ⟨_, rfl⟩
      rw [← hc, ← hn] at H1 HF
      clear hc hn
      go_enter Tryd.func17, Tryd.ntmps17
      go_wp2_with fail
      refine HC.out.mono ?_
      rintro x w1 ⟨⟨v, rfl, ht⟩, hb⟩
      obtain ⟨T, u, rfl⟩ := ht.iface
      have HB := Lib.hid hb
      have HT := Lib.hid ht
      clear hb ht
      go_wp2_with (first | (go_at_call 51; refine (isKey_any _ _).mono ?_; rintro e w' ⟨rfl, rfl⟩) | (go_at_call 52; refine (HF.out _ _ _ HT.out).mono ?_; rintro e w' ⟨rfl, rfl⟩))
      refine (ttext_any c _).mono ?_
      rintro x w2 ⟨rfl, hb2⟩
      have HB2 := Lib.hid (HB.out.trans (hb2.mono HB.out.size))
      clear hb2
      go_wp2
      go_ret3
      exact ⟨ret3r H1.out.1.symm H1.out.2.1.symm H1.out.2.2.symm, HB2.out⟩

set_option maxRecDepth 100000 in
set_option maxHeartbeats 1000000 in
theorem specRunTree_any (s : ByteArray) (key : Int) (hs : s.size ≤ 2000000) (w : World) : Calls Tryd.prog 16 #[.string s, .int .i64 key] w fun x w' => x = .returned (.tuple #[.string (trS (treeS (ls s)) key), .int .i64 (trN (treeS (ls s)) key), .bool (trB (treeS (ls s)) key)]) ∧ Below w.heap.size w w' := by
  have HC := Lib.hid (specRead_any s hs w)
  cases ho : treeS (ls s) with
  | none =>
    rw [ho] at HC
    go_enter Tryd.func16, Tryd.ntmps16
    go_wp2_with fail
    refine HC.out.mono ?_
    rintro x w' ⟨hx, hb⟩
    obtain rfl : x = .returned (.tuple #[.agg #[.string ⟨#[]⟩, .int .i64 0, .slice none 0 0], .bool false]) := hx
    have HB := Lib.hid hb
    clear hb
    go_wp2_with (go_at_call 49; refine (l1KeyT_any _ _).mono ?_; rintro e w' ⟨rfl, rfl⟩)
    go_ret3
    exact ⟨rfl, HB.out.alloc HB.out.size _⟩
  | some t =>
    rw [ho] at HC
    have hct := treeS_count ho
    cases hk : keyB key with
    | false =>
      have H1 := Lib.hid (show trS (some t) key = ⟨#[]⟩ ∧ trN (some t) key = 0 ∧ trB (some t) key = false by simp [trS, trN, trB, hk])
      go_enter Tryd.func16, Tryd.ntmps16
      go_wp2_with fail
      refine HC.out.mono ?_
      rintro x w1 ⟨⟨tg, k, sd, rfl, ht⟩, hb⟩
      obtain ⟨a, n, c, rfl⟩ := ht.slice
      have HB := Lib.hid hb
      clear hb ht
      go_wp2_with (go_at_call 49; refine (l1KeyT_any _ _).mono ?_; rintro e w' ⟨rfl, rfl⟩)
      go_ret3
      exact ⟨ret3r H1.out.1.symm H1.out.2.1.symm H1.out.2.2.symm, HB.out.alloc HB.out.size _⟩
    | true =>
      have H1 := Lib.hid (show trS (some t) key = ⟨#[(trT t key).1]⟩ ∧ trN (some t) key = ((trT t key).2 : Int) ∧ trB (some t) key = true by simp [trS, trN, trB, hk])
      have HF := Lib.hid (fun b w tg k sd h => run_any key t (by omega) b w tg k sd h)
      obtain ⟨c1, hc⟩ : ∃ c, c = (trT t key).1 := ⟨_, rfl⟩
      obtain ⟨n1, hn⟩ : ∃ n, n = (trT t key).2 := ⟨_, rfl⟩
      rw [← hc, ← hn] at H1 HF
      clear hc hn
      go_enter Tryd.func16, Tryd.ntmps16
      go_wp2_with fail
      refine HC.out.mono ?_
      rintro x w1 ⟨⟨tg, k, sd, rfl, ht⟩, hb⟩
      obtain ⟨a, n, c, rfl⟩ := ht.slice
      obtain ⟨w2, hw2⟩ : ∃ w2, w2 = w1.alloc (.cells #[.string tg, .int .i64 k, .slice a n c] 57) := ⟨_, rfl⟩
      have hba : Below w1.heap.size w1 w2 := by rw [hw2]; exact (Below.refl _ _).alloc (Nat.le_refl _) _
      have X : Box3 w2 w1.heap.size 57 (.string tg) (.int .i64 k) (.slice a n c) := by rw [hw2]; exact Box3.new _ _ _ _ _
      have x0 := X.c0
      have x1 := X.c1
      have x2 := X.c2
      have HB := Lib.hid (hb.trans (hba.mono hb.size))
      have HT := Lib.hid (ht.below hba)
      have HW2 := Lib.hid hw2
      clear hb ht hba X hw2
      go_wp2_with fail
      rw [← HW2.out]
      refine (l1KeyT_any _ _).mono ?_
      rintro e w' ⟨rfl, rfl⟩
      rw [hk]
      go_wp2_with fail
      refine (HF.out _ _ _ _ _ HT.out).mono ?_
      rintro x w3 ⟨rfl, hb3⟩
      have HB3 := Lib.hid (HB.out.trans (hb3.mono HB.out.size))
      clear hb3
      go_wp2
      go_ret3
      exact ⟨ret3r H1.out.1.symm H1.out.2.1.symm H1.out.2.2.symm, HB3.out⟩
end Go.Proofs.YtkiaafpggjojiaaDoor
