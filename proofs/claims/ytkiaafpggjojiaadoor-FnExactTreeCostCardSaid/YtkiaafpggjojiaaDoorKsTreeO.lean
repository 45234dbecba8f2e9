
/- TreeDepth, CountNodes and RunTree of the program and the model. -/
import Derived.Test.YtkiaafpggjojiaaDoorKsTreeL
import Derived.Test.YtkiaafpggjojiaaDoorKsTreeM
import Derived.Test.YtkiaafpggjojiaaDoorKsTreeN
namespace Go.Proofs.YtkiaafpggjojiaaDoor
open Go.RowKit Go.Shelf

theorem treeS_count {s : List UInt8} {t : TreeD} (h : treeS s = some t) : countT t ≤ 200 := by
  obtain ⟨_, e, hl⟩ := treeS_iff.1 h
  have := (count_text t).1
  rw [e] at this
  omega
def ansI (D : TreeD → Nat) (o : Option TreeD) : Int := match o with | none => -1 | some t => (D t : Int)
theorem join_depth (t : TreeD) : joinT (fun a b => max a b + 1) t = (depthT t : Int) := by
  induction t with
  | leaf c => rfl
  | cmp k l r h1 h2 => simp only [joinT, h1, h2, depthT]; omega
theorem join_count (t : TreeD) : joinT (fun a b => a + b + 1) t = (countT t : Int) := by
  induction t with
  | leaf c => rfl
  | cmp k l r h1 h2 => simp only [joinT, h1, h2, countT]; omega

set_option maxHeartbeats 400000 in
theorem depth1_any (a b : Int) (ha : 0 ≤ a) (hb : 0 ≤ b) (ha2 : a ≤ 1000000) (hb2 : b ≤ 1000000) (w : World) : Calls Tryd.prog 56 #[.int .i64 a, .int .i64 b] w fun x w' => x = .returned (.int .i64 (max a b + 1)) ∧ Below w.heap.size w w' := by
  have hm : IntKind.i64.wrap (max a b + 1) = max a b + 1 := by rw [IntKind.wrap]; simp [IntKind.signed, IntKind.bits]; omega
  go_enter Tryd.func56, Tryd.ntmps56
  go_wp2
  go_ret
  exact ⟨rfl, Below.refl _ _⟩
set_option maxHeartbeats 400000 in
theorem count1_any (a b : Int) (ha : 0 ≤ a) (hb : 0 ≤ b) (ha2 : a ≤ 1000000) (hb2 : b ≤ 1000000) (w : World) : Calls Tryd.prog 58 #[.int .i64 a, .int .i64 b] w fun x w' => x = .returned (.int .i64 (a + b + 1)) ∧ Below w.heap.size w w' := by
  go_enter Tryd.func58, Tryd.ntmps58
  go_wp2
  go_ret
  exact ⟨rfl, Below.refl _ _⟩

set_option maxRecDepth 100000 in
set_option maxHeartbeats 1000000 in
theorem measureTree_any (D : TreeD → Nat) (J : Int → Int → Int) (hD : ∀ t, joinT J t = (D t : Int)) (fj : FuncId) (ef : ∀ args W, (callFunc fj args).run Tryd.prog W = .ok (.enter fj args) W)
    (hJ : ∀ l r : TreeD, countT l + countT r ≤ 1000000 → ∀ W, Calls Tryd.prog fj #[.int .i64 (joinT J l), .int .i64 (joinT J r)] W fun x W' => x = .returned (.int .i64 (J (joinT J l) (joinT J r))) ∧ Below W.heap.size W W') (s : ByteArray) (w : World) (hV : VarsAt w) :
    Calls Tryd.prog 55 #[.string s, .func (.func fj) #[] #[]] w fun x w' => x = .returned (.int .i64 (ansI D (treeS (ls s)))) ∧ Below w.heap.size w w' := by
  have HC := Lib.hid (implRead_any s w hV)
  have HM := Lib.hid (measure_any J fj ef hJ)
  have HD := Lib.hid hD
  clear hV hJ hD ef
  cases ho : treeS (ls s) with
  | none =>
    rw [ho] at HC
    go_enter Tryd.func55, Tryd.ntmps55
    go_wp2_with fail
    refine HC.out.mono ?_
    rintro x w' ⟨hx, hb⟩
    obtain rfl : x = .returned (.tuple #[.nilIface, .bool false]) := hx
    have HB := Lib.hid hb
    clear hb
    go_wp2
    go_ret
    exact ⟨rfl, HB.out⟩
  | some t =>
    rw [ho] at HC
    have hct := treeS_count ho
    go_enter Tryd.func55, Tryd.ntmps55
    go_wp2_with fail
    refine HC.out.mono ?_
    rintro x w1 ⟨⟨v, rfl, ht⟩, hb⟩
    obtain ⟨T, u, rfl⟩ := ht.iface
    have HB := Lib.hid hb
    have HT := Lib.hid ht
    clear hb ht
    go_wp2_with fail
    refine (HM.out t (by omega) _ w1 _ HT.out).mono ?_
    rintro x w2 ⟨rfl, hb2⟩
    have HB2 := Lib.hid (HB.out.trans (hb2.mono HB.out.size))
    clear hb2
    go_wp2
    go_ret
    exact ⟨by show Ending.returned (.int .i64 (joinT J t)) = _; rw [HD.out]; rfl, HB2.out⟩
theorem implTreeDepth_any (s : ByteArray) (w : World) (hV : VarsAt w) : Calls Tryd.prog 19 #[.string s] w fun x w' => x = .returned (.int .i64 (ansI depthT (treeS (ls s)))) ∧ Below w.heap.size w w' := by
  have hmf : ∀ (fn : Fn) (first cap : Array Value) (w : World), (Instr.makeFunc fn first cap).run Tryd.prog w = .ok (.func fn first cap) w := fun _ _ _ _ => rfl
  have HC := Lib.hid (measureTree_any depthT (fun a b => max a b + 1) join_depth 56 (enters_of Tryd.func56 (by kernel_rfl) rfl) (fun l r h W => by
    rw [join_depth, join_depth]
    have h1 := (count_text l).2
    have h2 := (count_text r).2
    exact depth1_any _ _ (by omega) (by omega) (by omega) (by omega) W) s w hV)
  clear hV
  go_enter Tryd.func19, Tryd.ntmps19
  go_wp2_with (go_at_call 55; refine HC.out.mono ?_; rintro x w1 ⟨rfl, hb⟩; have HB := Lib.hid hb; clear hb)
  go_ret
  exact ⟨rfl, HB.out⟩
theorem implCountNodes_any (s : ByteArray) (w : World) (hV : VarsAt w) : Calls Tryd.prog 21 #[.string s] w fun x w' => x = .returned (.int .i64 (ansI countT (treeS (ls s)))) ∧ Below w.heap.size w w' := by
  have hmf : ∀ (fn : Fn) (first cap : Array Value) (w : World), (Instr.makeFunc fn first cap).run Tryd.prog w = .ok (.func fn first cap) w := fun _ _ _ _ => rfl
  have HC := Lib.hid (measureTree_any countT (fun a b => a + b + 1) join_count 58 (enters_of Tryd.func58 (by kernel_rfl) rfl) (fun l r h W => by
    rw [join_count, join_count]
    exact count1_any _ _ (by omega) (by omega) (by omega) (by omega) W) s w hV)
  clear hV
  go_enter Tryd.func21, Tryd.ntmps21
  go_wp2_with (go_at_call 55; refine HC.out.mono ?_; rintro x w1 ⟨rfl, hb⟩; have HB := Lib.hid hb; clear hb)
  go_ret
  exact ⟨rfl, HB.out⟩

set_option maxHeartbeats 1000000 in
theorem specTreeDepth_any (s : ByteArray) (hs : s.size ≤ 2000000) (w : World) : Calls Tryd.prog 18 #[.string s] w fun x w' => x = .returned (.int .i64 (ansI depthT (treeS (ls s)))) ∧ Below w.heap.size w w' := by
  have HC := Lib.hid (specRead_any s hs w)
  cases ho : treeS (ls s) with
  | none =>
    rw [ho] at HC
    go_enter Tryd.func18, Tryd.ntmps18
    go_wp2_with fail
    refine HC.out.mono ?_
    rintro x w' ⟨hx, hb⟩
    obtain rfl : x = .returned (.tuple #[.agg #[.string ⟨#[]⟩, .int .i64 0, .slice none 0 0], .bool false]) := hx
    have HB := Lib.hid hb
    clear hb
    go_wp2
    go_ret
    exact ⟨rfl, HB.out.alloc HB.out.size _⟩
  | some t =>
    rw [ho] at HC
    have hct := treeS_count ho
    go_enter Tryd.func18, Tryd.ntmps18
    go_wp2_with fail
    refine HC.out.mono ?_
    rintro x w1 ⟨⟨tg, k, sd, rfl, ht⟩, hb⟩
    obtain ⟨a, n, c, rfl⟩ := ht.slice
    have hba := (Below.refl w1.heap.size w1).alloc (Nat.le_refl _) (.cells #[.string tg, .int .i64 k, .slice a n c] 57)
    have HB := Lib.hid (hb.trans (hba.mono hb.size))
    have HT := Lib.hid (ht.below hba)
    clear hb ht hba
    go_wp2_with fail
    refine (depth_any t (by omega) _ _ _ _ _ HT.out).mono ?_
    rintro x w2 ⟨rfl, hb2⟩
    have HB2 := Lib.hid (HB.out.trans (hb2.mono HB.out.size))
    clear hb2
    go_wp2
    go_ret
    exact ⟨rfl, HB2.out⟩
set_option maxHeartbeats 1000000 in
theorem specCountNodes_any (s : ByteArray) (hs : s.size ≤ 2000000) (w : World) : Calls Tryd.prog 20 #[.string s] w fun x w' => x = .returned (.int .i64 (ansI countT (treeS (ls s)))) ∧ Below w.heap.size w w' := by
  have HC := Lib.hid (specRead_any s hs w)
  cases ho : treeS (ls s) with
  | none =>
    rw [ho] at HC
    go_enter Tryd.func20, Tryd.ntmps20
    go_wp2_with fail
    refine HC.out.mono ?_
    rintro x w' ⟨hx, hb⟩
    obtain rfl : x = .returned (.tuple #[.agg #[.string ⟨#[]⟩, .int .i64 0, .slice none 0 0], .bool false]) := hx
    have HB := Lib.hid hb
    clear hb
    go_wp2
    go_ret
    exact ⟨rfl, HB.out.alloc HB.out.size _⟩
  | some t =>
    rw [ho] at HC
    have hct := treeS_count ho
    go_enter Tryd.func20, Tryd.ntmps20
    go_wp2_with fail
    refine HC.out.mono ?_
    rintro x w1 ⟨⟨tg, k, sd, rfl, ht⟩, hb⟩
    obtain ⟨a, n, c, rfl⟩ := ht.slice
    have hba := (Below.refl w1.heap.size w1).alloc (Nat.le_refl _) (.cells #[.string tg, .int .i64 k, .slice a n c] 57)
    have HB := Lib.hid (hb.trans (hba.mono hb.size))
    have HT := Lib.hid (ht.below hba)
    clear hb ht hba
    go_wp2_with fail
    refine (count_any t (by omega) _ _ _ _ _ HT.out).mono ?_
    rintro x w2 ⟨rfl, hb2⟩
    have HB2 := Lib.hid (HB.out.trans (hb2.mono HB.out.size))
    clear hb2
    go_wp2
    go_ret
    exact ⟨rfl, HB2.out⟩
end Go.Proofs.YtkiaafpggjojiaaDoor
