
/- The laws' measure of an argument, from whatever is left. -/
import Derived.Test.YtjpcpiffffobcaaGreatDoorKsSize
namespace Go.Proofs.YtjpcpiffffobcaaGreatDoor
open Go.RowKit Go.Shelf Go.Lib Go.Sort

def SzPostG (n : Nat) (w : World) (x : Ending) (w' : World) : Prop :=
  ∃ r : Int, x = .returned (.int .i64 r) ∧ r ≤ 1048576 ∧ (0 ≤ r → n ≤ 1048576) ∧ RowKit.Below w.heap.size w w'

set_option maxHeartbeats 400000 in
theorem szCaseS_longG (v : Value) (n cap : Nat) (l : Int) (w : World) (h0 : 0 ≤ l) (h1 : l ≤ 1048576) (hn : l < n) (hmax : n ≤ maxLen) (a : Option Addr) (hv : v = .slice a n cap) :
    Calls Tryz.prog 32 #[v, .int .i64 l] w fun x w' => x = .returned (.int .i64 (-1)) ∧ w = w' := by
  unfold maxLen at hmax
  subst hv
  go_enter Tryz.func32, Tryz.ntmps32
  go_wp2
  go_ret
  exact ⟨rfl, rfl⟩

set_option maxRecDepth 100000 in
set_option maxHeartbeats 400000 in
theorem szCaseS_rowG (b off cap : Nat) (d : Array CaseD) (l : Int) (w : World) (h0 : 0 ≤ l) (h1 : l ≤ 1048576) (hR : RowC w b off d) (hs : ∀ j, j < d.size → d[j]!.target.size ≤ maxLen) (hn : (d.size : Int) ≤ l) :
    Calls Tryz.prog 32 #[.slice (some ⟨b, off, none⟩) d.size cap, .int .i64 l] w (SzPostG d.size w) := by
  have HR := Lib.hid hR
  have HS := Lib.hid hs
  clear hR hs
  have hn' : (d.size : Int) ≤ 1048576 := by omega
  go_enter Tryz.func32, Tryz.ntmps32
  go_wp2
  go_loopw [1, 5] (fun l i wr => ∃ (k : Nat) (r : Int), i = .int .i64 k ∧ l = .int .i64 r ∧ 0 ≤ r ∧ r ≤ 1048576 ∧ k ≤ d.size ∧ Hid (RowKit.Below w.heap.size w wr) ∧ w.heap.size ≤ wr.heap.size) (fun _ i _ => d.size - (intOf i).toNat)
  case atStart => exact ⟨0, _, rfl, rfl, by omega, by omega, Nat.zero_le _, Below.refl _ _, Nat.le_refl _⟩
  case round =>
    obtain ⟨k, r, rfl, rfl, hr0, hr1, hk, HW, hw2⟩ := hrel
    by_cases hlt : k < d.size
    · have hx := HR.out.below HW.out
      have x0 := hx.low k hlt
      have x1 := hx.high k hlt
      have x2 := hx.target k hlt
      have x3 := hx.weight k hlt
      clear hx
      obtain ⟨x, hxe⟩ : ∃ x, x = d[k]! := ⟨_, rfl⟩
      have hsx := HS.out k hlt
      rw [← hxe] at x0 x1 x2 x3 hsx
      clear hxe
      have hcall := Lib.hid (szCase_any x r wr hr0 hr1 hsx)
      go_wp2_with (go_at_call 69; refine hcall.out.mono ?_; rintro x w' ⟨q, rfl, hq, hb⟩)
      · go_ret
        exact ⟨-1, rfl, by omega, fun h => by omega, HW.out.trans (hb.mono hw2)⟩
      · have hq0 : 0 ≤ q := by assumption
        go_roundw
        case rel => exact ⟨k + 1, q, by go_num, rfl, hq0, hq, by omega, HW.out.trans (hb.mono hw2), Nat.le_trans hw2 hb.size⟩
        case measure => simp [intOf]; omega
    · go_wp2
      go_ret
      exact ⟨r, rfl, hr1, fun _ => by omega, HW.out⟩

set_option maxHeartbeats 400000 in
theorem szCaseS_nilG (p : Option Addr) (cap : Nat) (l : Int) (w : World) (h0 : 0 ≤ l) (h1 : l ≤ 1048576) : Calls Tryz.prog 32 #[.slice p 0 cap, .int .i64 l] w (SzPostG 0 w) := by
  go_enter Tryz.func32, Tryz.ntmps32
  go_wp2
  refine wp_loop_rounds 1 ?_
  rw [rounds_succ]
  go_wp2
  go_ret
  exact ⟨l, rfl, h1, fun _ => by omega, Below.refl _ _⟩

theorem szCaseS_anyG (v : Value) (d : Array CaseD) (l : Int) (w : World) (h0 : 0 ≤ l) (h1 : l ≤ 1048576) (hv : SliceC w v d) (hs : ∀ j, j < d.size → d[j]!.target.size ≤ maxLen) :
    Calls Tryz.prog 32 #[v, .int .i64 l] w (SzPostG d.size w) := by
  rcases hv with ⟨p, cap, rfl, rfl⟩ | ⟨b, off, cap, rfl, g1, g2, hR⟩
  · exact szCaseS_nilG p cap l w h0 h1
  · by_cases hn : (d.size : Int) ≤ l
    · exact szCaseS_rowG b off cap d l w h0 h1 hR hs hn
    · exact (szCaseS_longG _ d.size cap l w h0 h1 (by omega) (by omega) _ rfl).mono fun _ _ ⟨he, hw⟩ => ⟨-1, he, by omega, fun h => by omega, hw ▸ Below.refl _ _⟩

set_option maxHeartbeats 400000 in
theorem szSwitch_anyG (v : Value) (rest : Int) (d : Array CaseD) (l : Int) (w : World) (h0 : 0 ≤ l) (h1 : l ≤ 1048576) (hv : SliceC w v d) (hs : ∀ j, j < d.size → d[j]!.target.size ≤ maxLen) :
    Calls Tryz.prog 6 #[.agg #[v, .int .i64 rest], .int .i64 l] w (SzPostG d.size w) := by
  have hcall := Lib.hid (fun o => szCaseS_anyG v d l _ h0 h1 (hv.below ((Below.refl w.heap.size w).alloc (Nat.le_refl _) o)) hs)
  clear hv hs
  go_enter Tryz.func6, Tryz.ntmps6
  go_wp2_with (go_at_call 32; refine (hcall.out _).mono ?_; rintro x w' ⟨r, rfl, hr1, hr, hb⟩; have HR := Lib.hid hr; have HR1 := Lib.hid hr1; clear hr hr1)
  · go_ret
    exact ⟨-1, rfl, by omega, fun h => by omega, ((Below.refl _ _).alloc (Nat.le_refl _) _).trans (hb.mono (by simp))⟩
  · go_ret
    exact ⟨r, rfl, HR1.out, HR.out, ((Below.refl _ _).alloc (Nat.le_refl _) _).trans (hb.mono (by simp))⟩
end Go.Proofs.YtjpcpiffffobcaaGreatDoor
