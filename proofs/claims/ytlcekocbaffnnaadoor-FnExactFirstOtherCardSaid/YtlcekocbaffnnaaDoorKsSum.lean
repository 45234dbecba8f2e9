/- sum; how many keys have a case; all weights together: the program's and the model's. -/
import Derived.Test.YtlcekocbaffnnaaDoorKsModel
namespace Go.Proofs.YtlcekocbaffnnaaDoor
open Go.RowKit Go.Shelf Go.Lib Go.Sort

theorem bcell0 {W w1 : World} (hb : RowKit.Below W.heap.size W w1) : (∀ b o, b < W.heap.size → w1.cell? ⟨b, o, none⟩ = W.cell? ⟨b, o, none⟩) ∧ True :=
  ⟨fun b o h => hb.cell (p := ⟨b, o, none⟩) h, trivial⟩
def sumTo (e : Nat → Int) : Nat → Int
  | 0 => 0
  | k + 1 => sumTo e k + e k
theorem sumTo_le {e : Nat → Int} {n : Nat} (h : ∀ j, j < n → 0 ≤ e j ∧ e j ≤ 100) : ∀ k, k ≤ n → 0 ≤ sumTo e k ∧ sumTo e k ≤ 100 * k
  | 0, _ => by simp [sumTo]
  | k + 1, hk => by
    have := sumTo_le h k (by omega)
    have := h k (by omega)
    simp only [sumTo]
    omega
def intRow (e : Nat → Int) (n : Nat) : List Value := (List.range n).map fun j => Value.int .i64 (e j)
theorem intRow_get (e : Nat → Int) (n j : Nat) (hj : j < n) : (intRow e n)[j]? = some (.int .i64 (e j)) := by simp [intRow, hj]
theorem intRow_succ (e : Nat → Int) (n : Nat) : intRow e n ++ [.int .i64 (e n)] = intRow e (n + 1) := by simp [intRow, List.range_succ]
theorem retI {a b : Int} (h : a = b) : Ending.returned (.int .i64 a) = .returned (.int .i64 b) := by rw [h]

set_option maxRecDepth 100000 in
set_option maxHeartbeats 400000 in
theorem sum_row (e : Nat → Int) (n g cap : Nat) (w : World) (hc : ∀ j, j < n → w.cell? ⟨g, j, none⟩ = some (.int .i64 (e j))) (hn : n ≤ 9) (hb : ∀ j, j < n → 0 ≤ e j ∧ e j ≤ 100) :
    Calls Tryd.prog 80 #[.slice (some ⟨g, 0, none⟩) n cap] w fun x w' => x = .returned (.int .i64 (sumTo e n)) ∧ w = w' := by
  have HC := Lib.hid hc
  have HB := Lib.hid hb
  have hn' : (n : Int) ≤ 9 := by omega
  clear hc hb
  go_enter Tryd.func80, Tryd.ntmps80
  go_wp2
  go_loop [3, 5, 8] (fun t _ i => ∃ k : Nat, i = .int .i64 k ∧ k ≤ n ∧ t = .int .i64 (sumTo e k)) (fun _ _ i => n - (intOf i).toNat)
  case atStart => exact ⟨0, rfl, Nat.zero_le _, rfl⟩
  case round =>
    obtain ⟨k, rfl, hk, rfl⟩ := hrel
    by_cases hlt : k < n
    · have x0 := HC.out k hlt
      have hs := sumTo_le HB.out k hk
      have he := HB.out k hlt
      have HS := Lib.hid (show sumTo e (k + 1) = sumTo e k + e k from rfl)
      obtain ⟨s, hse⟩ : ∃ s, s = sumTo e k := ⟨_, rfl⟩
      obtain ⟨z, hze⟩ : ∃ z, z = e k := ⟨_, rfl⟩
      rw [← hse] at hs ⊢
      rw [← hze] at x0 he
      have SE := Lib.hid hse
      have ZE := Lib.hid hze
      clear hse hze
      obtain ⟨hs1, hs2⟩ := hs
      obtain ⟨he1, he2⟩ := he
      go_wp2
      go_round
      case rel => exact ⟨k + 1, by go_num, by omega, by rw [HS.out, SE.out, ZE.out]⟩
      case measure => simp [intOf]; omega
    · go_wp2
      go_ret
      exact ⟨retI (by rw [show k = n by omega]), rfl⟩

set_option maxHeartbeats 400000 in
theorem sum_nil (w : World) : Calls Tryd.prog 80 #[.slice none 0 0] w fun x w' => x = .returned (.int .i64 0) ∧ w = w' := by
  go_enter Tryd.func80, Tryd.ntmps80
  go_wp2
  refine wp_loop_rounds 1 ?_
  rw [rounds_succ]
  go_wp2
  go_ret
  exact ⟨rfl, rfl⟩

theorem sum_any (e : Nat → Int) (n base : Nat) (v : Value) (w : World) (ho : w.ownsRow base 3 1 v n (intRow e n)) (hn : n ≤ 9) (hb : ∀ j, j < n → 0 ≤ e j ∧ e j ≤ 100) :
    Calls Tryd.prog 80 #[v] w fun x w' => x = .returned (.int .i64 (sumTo e n)) ∧ w = w' := by
  rcases ho.2 with ⟨rfl, rfl⟩ | ⟨g, cap, cur, rfl, _⟩
  · exact sum_nil w
  · exact sum_row e n g cap w (fun j hj => (ho.cellAt j (by omega)).trans (intRow_get e n j hj)) hn hb

/-! the model's l1Keys -/
def keyW (d : Array CaseD) (j : Nat) : Int := d[j]!.high - d[j]!.low + 1
theorem keyW_le {d : Array CaseD} {rest : Int} (h : SwOK d rest) : ∀ j, j < d.size → 0 ≤ keyW d j ∧ keyW d j ≤ 100 := fun j hj => by
  have := caseB_le (h.case j hj)
  have := caseB_low (h.case j hj)
  have := caseB_high (h.case j hj)
  unfold keyW
  omega

set_option maxRecDepth 100000 in
set_option maxHeartbeats 1000000 in
theorem l1Keys_any (b off cap : Nat) (d : Array CaseD) (rest : Int) (w : World) (hR : RowC w b off d) (hok : SwOK d rest) :
    Calls Tryd.prog 78 #[.agg #[.slice (some ⟨b, off, none⟩) d.size cap, .int .i64 rest]] w fun x w' => x = .returned (.int .i64 (sumTo (keyW d) d.size)) ∧ RowKit.Below w.heap.size w w' := by
  have HR := Lib.hid hR
  have HO := Lib.hid hok
  have h8 : (d.size : Int) ≤ 8 := by have := hok.size; omega
  clear hR hok
  go_enter Tryd.func78, Tryd.ntmps78
  go_wp2
  obtain ⟨wa, hwa⟩ : ∃ wa, wa = w.alloc (.cells #[.slice (some ⟨b, off, none⟩) d.size cap, .int .i64 rest] 25) := ⟨_, rfl⟩
  have hba : RowKit.Below w.heap.size w wa := by rw [hwa]; exact (Below.refl _ _).alloc (Nat.le_refl _) _
  have hza := hba.size
  rw [← hwa]
  have HA := Lib.hid hba
  clear hwa hba
  go_loopw [3, 9] (fun t i wr => ∃ k : Nat, i = .int .i64 k ∧ k ≤ d.size ∧ t = .int .i64 (sumTo (keyW d) k) ∧ Hid (RowKit.Below w.heap.size w wr) ∧ w.heap.size ≤ wr.heap.size) (fun _ i _ => d.size - (intOf i).toNat)
  case atStart => exact ⟨0, rfl, Nat.zero_le _, rfl, HA.out, hza⟩
  case round =>
    obtain ⟨k, rfl, hk, rfl, HW, hw2⟩ := hrel
    have hs := sumTo_le (keyW_le HO.out) k hk
    have HS := Lib.hid (show sumTo (keyW d) (k + 1) = sumTo (keyW d) k + keyW d k from rfl)
    obtain ⟨s, hse⟩ : ∃ s, s = sumTo (keyW d) k := ⟨_, rfl⟩
    rw [← hse] at hs ⊢
    have SE := Lib.hid hse
    clear hse
    obtain ⟨hs1, hs2⟩ := hs
    by_cases hlt : k < d.size
    · have hx := HR.out.below HW.out
      have x0 := hx.low k hlt
      have x1 := hx.high k hlt
      have x2 := hx.target k hlt
      have x3 := hx.weight k hlt
      have l1 := caseB_low (HO.out.case k hlt)
      have l2 := caseB_high (HO.out.case k hlt)
      clear hx
      obtain ⟨x, hxe⟩ : ∃ x, x = d[k]! := ⟨_, rfl⟩
      rw [← hxe] at x0 x1 x2 x3 l1 l2
      have XE := Lib.hid hxe
      clear hxe
      obtain ⟨l11, l12⟩ := l1
      obtain ⟨l21, l22⟩ := l2
      go_wp2
      go_roundw
      case rel => exact ⟨k + 1, by go_num, by omega, by rw [HS.out, ← SE.out, keyW, ← XE.out]; congr 1; omega, HW.out.alloc hw2 _, by simp; omega⟩
      case measure => simp [intOf]; omega
    · go_wp2
      go_ret
      exact ⟨retI (by rw [SE.out, show k = d.size by omega]), HW.out⟩

noncomputable def keysN (d : Array CaseD) (rest : Int) : Int := if swB d rest = true then sumTo (keyW d) d.size else -1

set_option maxRecDepth 100000 in
set_option maxHeartbeats 1000000 in
theorem specKeys_any (b off cap : Nat) (d : Array CaseD) (rest : Int) (w : World) (hR : RowC w b off d) (hcap : d.size ≤ cap) (hmax : cap ≤ maxLen) :
    Calls Tryd.prog 24 #[.agg #[.slice (some ⟨b, off, none⟩) d.size cap, .int .i64 rest]] w fun x w' => x = .returned (.int .i64 (keysN d rest)) ∧ RowKit.Below w.heap.size w w' := by
  have hv := fun W (hW : RowKit.Below w.heap.size w W) => specValid_any b off cap d rest W (hR.below hW) hcap hmax
  have hk := fun W (hW : RowKit.Below w.heap.size w W) (ho : SwOK d rest) => l1Keys_any b off cap d rest W (hR.below hW) ho
  have HK := Lib.hid hk
  clear hR hk
  have hb1 := (Below.refl w.heap.size w).alloc (Nat.le_refl _) (.cells #[.slice (some ⟨b, off, none⟩) d.size cap, .int .i64 rest] 25)
  have HB1 := Lib.hid hb1
  have hz1 := hb1.size
  clear hb1
  cases hs : swB d rest
  all_goals
    simp only [hs] at hv
    have HV := Lib.hid hv
    have HS := Lib.hid hs
    clear hv hs
    go_enter Tryd.func24, Tryd.ntmps24
    go_wp2_with fail
    refine (HV.out _ HB1.out).mono ?_
    rintro x w1 ⟨rfl, hb⟩
    have HB := Lib.hid (HB1.out.trans (hb.mono hz1))
    obtain ⟨hc, _⟩ := bcell0 hb
    clear hb
    go_wp2_with fail
  · go_ret
    exact ⟨retI (by rw [keysN, if_neg (by rw [HS.out]; exact Bool.false_ne_true)]), HB.out⟩
  · refine (HK.out _ HB.out ((swB_iff _ _).1 HS.out)).mono ?_
    rintro x w2 ⟨rfl, hb2⟩
    have HB2 := Lib.hid (HB.out.trans (hb2.mono HB.out.size))
    clear hb2
    go_wp2
    go_ret
    exact ⟨retI (by rw [keysN, if_pos HS.out]), HB2.out⟩
end Go.Proofs.YtlcekocbaffnnaaDoor
