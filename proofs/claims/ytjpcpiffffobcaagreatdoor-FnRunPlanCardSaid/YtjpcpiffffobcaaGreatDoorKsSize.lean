
/- The laws' measure of an argument: szCase, szCaseS, szSwitch. -/
import Derived.Test.YtjpcpiffffobcaaGreatDoorKsModel
namespace Go.Proofs.YtjpcpiffffobcaaGreatDoor
open Go.RowKit Go.Shelf Go.Lib Go.Sort

/-- What is left behind the measure: a number; if it is not negative the slice is no longer than 2^20. -/
def SzPost (n : Nat) (w : World) (x : Ending) (w' : World) : Prop :=
  ∃ r : Int, x = .returned (.int .i64 r) ∧ (0 ≤ r → n ≤ 1048576) ∧ RowKit.Below w.heap.size w w'

set_option maxHeartbeats 400000 in
theorem szCase_any (c : CaseD) (l : Int) (w : World) (h0 : 0 ≤ l) (h1 : l ≤ 1048576) (hs : c.target.size ≤ maxLen) :
    Calls Tryz.prog 69 #[aggC c, .int .i64 l] w fun x w' => ∃ r : Int, x = .returned (.int .i64 r) ∧ r ≤ 1048576 ∧ RowKit.Below w.heap.size w w' := by
  unfold maxLen at hs
  unfold aggC
  by_cases hn : l - c.target.size < 0
  · go_enter Tryz.func69, Tryz.ntmps69
    go_wp2
    go_ret
    exact ⟨-1, rfl, by omega, (Below.refl _ _).alloc (Nat.le_refl _) _⟩
  · go_enter Tryz.func69, Tryz.ntmps69
    go_wp2
    go_ret
    exact ⟨l - c.target.size, rfl, by omega, (Below.refl _ _).alloc (Nat.le_refl _) _⟩

set_option maxHeartbeats 400000 in
theorem szCaseS_long (v : Value) (n cap : Nat) (w : World) (hn : 1048576 < n) (hmax : n ≤ maxLen) (a : Option Addr) (hv : v = .slice a n cap) :
    Calls Tryz.prog 32 #[v, .int .i64 1048576] w fun x w' => x = .returned (.int .i64 (-1)) ∧ w = w' := by
  unfold maxLen at hmax
  subst hv
  go_enter Tryz.func32, Tryz.ntmps32
  go_wp2
  go_ret
  exact ⟨rfl, rfl⟩

set_option maxRecDepth 100000 in
set_option maxHeartbeats 400000 in
theorem szCaseS_row (b off cap : Nat) (d : Array CaseD) (w : World) (hR : RowC w b off d) (hs : ∀ j, j < d.size → d[j]!.target.size ≤ maxLen) (hn : d.size ≤ 1048576) :
    Calls Tryz.prog 32 #[.slice (some ⟨b, off, none⟩) d.size cap, .int .i64 1048576] w (SzPost d.size w) := by
  have HR := Lib.hid hR
  have HS := Lib.hid hs
  clear hR hs
  have hn' : (d.size : Int) ≤ 1048576 := by omega
  go_enter Tryz.func32, Tryz.ntmps32
  go_wp2
  go_loopw [1, 5] (fun l i wr => ∃ (k : Nat) (r : Int), i = .int .i64 k ∧ l = .int .i64 r ∧ 0 ≤ r ∧ r ≤ 1048576 ∧ k ≤ d.size ∧ Hid (RowKit.Below w.heap.size w wr) ∧ w.heap.size ≤ wr.heap.size) (fun _ i _ => d.size - (intOf i).toNat)
  case atStart => exact ⟨0, _, rfl, rfl, by omega, by omega, Nat.zero_le _, Below.refl _ _, Nat.le_refl _⟩
  case round =>
    obtain ⟨k, r, rfl, rfl, hr0, hr1, hk, HW, hw2⟩ := hrel
    by_cases hlt : k < d.size
    · have hx := HR.out.below HW.out
      have x0 := hx.low k hlt
      have x1 := hx.high k hlt
      have x2 := hx.target k hlt
      have x3 := hx.weight k hlt
      clear hx
      obtain ⟨x, hxe⟩ : ∃ x, x = d[k]! := ⟨_, rfl⟩
      have hsx := HS.out k hlt
      rw [← hxe] at x0 x1 x2 x3 hsx
      clear hxe
      have hcall := Lib.hid (szCase_any x r wr hr0 hr1 hsx)
      go_wp2_with (go_at_call 69; refine hcall.out.mono ?_; rintro x w' ⟨q, rfl, hq, hb⟩)
      · go_ret
        exact ⟨-1, rfl, fun h => by omega, HW.out.trans (hb.mono hw2)⟩
      · have hq0 : 0 ≤ q := by assumption
        go_roundw
        case rel => exact ⟨k + 1, q, by go_num, rfl, hq0, hq, by omega, HW.out.trans (hb.mono hw2), Nat.le_trans hw2 hb.size⟩
        case measure => simp [intOf]; omega
    · go_wp2
      go_ret
      exact ⟨r, rfl, fun _ => hn, HW.out⟩

/-- A slice of cases that came in: nil, or a row. -/
def SliceC (w : World) (v : Value) (d : Array CaseD) : Prop :=
  (∃ p cap, v = .slice p 0 cap ∧ d = #[]) ∨ ∃ b off cap, v = .slice (some ⟨b, off, none⟩) d.size cap ∧ d.size ≤ cap ∧ cap ≤ maxLen ∧ RowC w b off d
theorem SliceC.below {w w' : World} {v : Value} {d : Array CaseD} (h : SliceC w v d) (hb : RowKit.Below w.heap.size w w') : SliceC w' v d := by
  rcases h with h | ⟨b, off, cap, h1, h2, h3, h4⟩
  · exact .inl h
  · exact .inr ⟨b, off, cap, h1, h2, h3, h4.below hb⟩

set_option maxHeartbeats 400000 in
theorem szCaseS_nil (p : Option Addr) (cap : Nat) (w : World) : Calls Tryz.prog 32 #[.slice p 0 cap, .int .i64 1048576] w (SzPost 0 w) := by
  go_enter Tryz.func32, Tryz.ntmps32
  go_wp2
  refine wp_loop_rounds 1 ?_
  rw [rounds_succ]
  go_wp2
  go_ret
  exact ⟨1048576, rfl, fun _ => by omega, Below.refl _ _⟩

theorem szCaseS_any (v : Value) (d : Array CaseD) (w : World) (hv : SliceC w v d) (hs : ∀ j, j < d.size → d[j]!.target.size ≤ maxLen) :
    Calls Tryz.prog 32 #[v, .int .i64 1048576] w (SzPost d.size w) := by
  rcases hv with ⟨p, cap, rfl, rfl⟩ | ⟨b, off, cap, rfl, h1, h2, hR⟩
  · exact szCaseS_nil p cap w
  · by_cases hn : d.size ≤ 1048576
    · exact szCaseS_row b off cap d w hR hs hn
    · exact (szCaseS_long _ d.size cap w (by omega) (by omega) _ rfl).mono fun _ _ ⟨he, hw⟩ => ⟨-1, he, fun h => by omega, hw ▸ Below.refl _ _⟩

set_option maxHeartbeats 400000 in
theorem szSwitch_any (v : Value) (rest : Int) (d : Array CaseD) (w : World) (hv : SliceC w v d) (hs : ∀ j, j < d.size → d[j]!.target.size ≤ maxLen) :
    Calls Tryz.prog 6 #[.agg #[v, .int .i64 rest], .int .i64 1048576] w (SzPost d.size w) := by
  have hcall := Lib.hid (fun o => szCaseS_any v d _ (hv.below ((Below.refl w.heap.size w).alloc (Nat.le_refl _) o)) hs)
  clear hv hs
  go_enter Tryz.func6, Tryz.ntmps6
  go_wp2_with (go_at_call 32; refine (hcall.out _).mono ?_; rintro x w' ⟨r, rfl, hr, hb⟩; have HR := Lib.hid hr; clear hr)
  · go_ret
    exact ⟨-1, rfl, fun h => by omega, ((Below.refl _ _).alloc (Nat.le_refl _) _).trans (hb.mono (by simp))⟩
  · go_ret
    exact ⟨r, rfl, HR.out, ((Below.refl _ _).alloc (Nat.le_refl _) _).trans (hb.mono (by simp))⟩
end Go.Proofs.YtjpcpiffffobcaaGreatDoor
