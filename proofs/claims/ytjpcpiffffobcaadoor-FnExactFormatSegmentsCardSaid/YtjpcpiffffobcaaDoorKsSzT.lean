
/- The laws' measure of a list of cases: behind it each target is no longer than 2^20 either. -/
import Derived.Test.YtjpcpiffffobcaaDoorKsSize
namespace Go.Proofs.YtjpcpiffffobcaaDoor
open Go.RowKit Go.Shelf Go.Lib Go.Sort

def SzPostT (d : Array CaseD) (w : World) (x : Ending) (w' : World) : Prop :=
  ∃ r : Int, x = .returned (.int .i64 r) ∧ (0 ≤ r → d.size ≤ 1048576 ∧ ∀ j, j < d.size → d[j]!.target.size ≤ 1048576) ∧ RowKit.Below w.heap.size w w'

set_option maxHeartbeats 400000 in
theorem szCase_T (c : CaseD) (l : Int) (w : World) (h0 : 0 ≤ l) (h1 : l ≤ 1048576) (hs : c.target.size ≤ maxLen) :
    Calls Tryd.prog 64 #[aggC c, .int .i64 l] w fun x w' => ∃ r : Int, x = .returned (.int .i64 r) ∧ r ≤ 1048576 ∧ (0 ≤ r → c.target.size ≤ 1048576) ∧ RowKit.Below w.heap.size w w' := by
  unfold maxLen at hs
  unfold aggC
  by_cases hn : l - c.target.size < 0
  · go_enter Tryd.func64, Tryd.ntmps64
    go_wp2
    go_ret
    exact ⟨-1, rfl, by omega, fun h => by omega, (Below.refl _ _).alloc (Nat.le_refl _) _⟩
  · go_enter Tryd.func64, Tryd.ntmps64
    go_wp2
    go_ret
    exact ⟨l - c.target.size, rfl, by omega, fun h => by omega, (Below.refl _ _).alloc (Nat.le_refl _) _⟩

set_option maxRecDepth 100000 in
set_option maxHeartbeats 400000 in
theorem szCaseS_rowT (b off cap : Nat) (d : Array CaseD) (w : World) (hR : RowC w b off d) (hs : ∀ j, j < d.size → d[j]!.target.size ≤ maxLen) (hn : d.size ≤ 1048576) :
    Calls Tryd.prog 39 #[.slice (some ⟨b, off, none⟩) d.size cap, .int .i64 1048576] w (SzPostT d w) := by
  have HR := Lib.hid hR
  have HS := Lib.hid hs
  clear hR hs
  have hn' : (d.size : Int) ≤ 1048576 := by omega
  go_enter Tryd.func39, Tryd.ntmps39
  go_wp2
  go_loopw [1, 5] (fun l i wr => ∃ (k : Nat) (r : Int), i = .int .i64 k ∧ l = .int .i64 r ∧ 0 ≤ r ∧ r ≤ 1048576 ∧ k ≤ d.size ∧ Hid (∀ j, j < k → d[j]!.target.size ≤ 1048576) ∧ Hid (RowKit.Below w.heap.size w wr) ∧ w.heap.size ≤ wr.heap.size) (fun _ i _ => d.size - (intOf i).toNat)
  case atStart => exact ⟨0, _, rfl, rfl, by omega, by omega, Nat.zero_le _, Lib.hid (fun j hj => absurd hj (Nat.not_lt_zero j)), Below.refl _ _, Nat.le_refl _⟩
  case round =>
    obtain ⟨k, r, rfl, rfl, hr0, hr1, hk, HJ, HW, hw2⟩ := hrel
    by_cases hlt : k < d.size
    · have hx := HR.out.below HW.out
      have x0 := hx.low k hlt
      have x1 := hx.high k hlt
      have x2 := hx.target k hlt
      have x3 := hx.weight k hlt
      clear hx
      obtain ⟨x, hxe⟩ : ∃ x, x = d[k]! := ⟨_, rfl⟩
      have hsx := HS.out k hlt
      rw [← hxe] at x0 x1 x2 x3 hsx
      have HXE := Lib.hid hxe
      clear hxe
      have hcall := Lib.hid (szCase_T x r wr hr0 hr1 hsx)
      go_wp2_with (go_at_call 64; refine hcall.out.mono ?_; rintro x' w' ⟨q, rfl, hq, ht, hb⟩; have HTQ := Lib.hid ht; clear ht)
      · go_ret
        exact ⟨-1, rfl, fun h => by omega, HW.out.trans (hb.mono hw2)⟩
      · have hq0 : 0 ≤ q := by assumption
        go_roundw
        case rel =>
          refine ⟨k + 1, q, by go_num, rfl, hq0, hq, by omega, Lib.hid (fun j hj => ?_), HW.out.trans (hb.mono hw2), Nat.le_trans hw2 hb.size⟩
          by_cases e : j = k
          · subst e
            rw [← HXE.out]
            exact HTQ.out hq0
          · exact HJ.out j (by omega)
        case measure => simp [intOf]; omega
    · have hke : k = d.size := by omega
      have HJ2 := Lib.hid (show ∀ j, j < d.size → d[j]!.target.size ≤ 1048576 from hke ▸ HJ.out)
      clear hke
      go_wp2
      go_ret
      exact ⟨r, rfl, fun _ => ⟨hn, HJ2.out⟩, HW.out⟩

theorem szCaseS_T (v : Value) (d : Array CaseD) (w : World) (hv : SliceC w v d) (hs : ∀ j, j < d.size → d[j]!.target.size ≤ maxLen) :
    Calls Tryd.prog 39 #[v, .int .i64 1048576] w (SzPostT d w) := by
  rcases hv with ⟨p, cap, rfl, rfl⟩ | ⟨b, off, cap, rfl, h1, h2, hR⟩
  · exact (szCaseS_nil p cap w).mono fun _ _ ⟨r, h1, _, h3⟩ => ⟨r, h1, fun _ => ⟨by simp, fun j hj => absurd hj (Nat.not_lt_zero j)⟩, h3⟩
  · by_cases hn : d.size ≤ 1048576
    · exact szCaseS_rowT b off cap d w hR hs hn
    · exact (szCaseS_long _ d.size cap w (by omega) (by omega) _ rfl).mono fun _ _ ⟨h1, h2⟩ => ⟨-1, h1, fun h => by omega, h2 ▸ Below.refl _ _⟩
end Go.Proofs.YtjpcpiffffobcaaDoor
