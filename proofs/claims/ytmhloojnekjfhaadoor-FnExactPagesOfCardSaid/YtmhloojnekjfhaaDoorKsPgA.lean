
/- Sizes of pages: l6Size, pageSizes, isPageSize; slices.Index, Contains at integers. -/
import Derived.Test.YtmhloojnekjfhaaDoorKsRowN
namespace Go.Proofs.YtmhloojnekjfhaaDoor
open Go.RowKit Go.Sort

def sizeB (n : Int) : Bool := decide (n = 1 ∨ n = 2 ∨ n = 4 ∨ n = 8 ∨ n = 16 ∨ n = 32)
theorem sizeB_iff (n : Int) : sizeB n = true ↔ (n = 1 ∨ n = 2 ∨ n = 4 ∨ n = 8 ∨ n = 16 ∨ n = 32) := by simp [sizeB]
set_option maxRecDepth 100000 in
set_option maxHeartbeats 1000000 in
theorem l6Size_any (n : Int) (w : World) : Calls Tryd.prog 38 #[.int .i64 n] w fun e w' => e = .returned (.bool (sizeB n)) ∧ w = w' := by
  by_cases h : sizeB n = true
  · rcases (sizeB_iff n).1 h with rfl | rfl | rfl | rfl | rfl | rfl
    all_goals
      go_enter Tryd.func38, Tryd.ntmps38
      go_wp2
      go_ret
      exact ⟨rfl, rfl⟩
  · have hf : sizeB n = false := by simpa using h
    have hn : ¬ (n = 1 ∨ n = 2 ∨ n = 4 ∨ n = 8 ∨ n = 16 ∨ n = 32) := fun k => h ((sizeB_iff n).2 k)
    have e1 : (n == 1) = false := by simp; omega
    have e2 : (n == 2) = false := by simp; omega
    have e3 : (n == 4) = false := by simp; omega
    have e4 : (n == 8) = false := by simp; omega
    have e5 : (n == 16) = false := by simp; omega
    have e6 : (n == 32) = false := by simp; omega
    have HF := Lib.hid hf
    clear h hn hf
    go_enter Tryd.func38, Tryd.ntmps38
    go_wp2
    go_ret
    exact ⟨retB HF.out.symm, rfl⟩

/-- Where a number first stands. -/
def FoundN (o : Array Int) (v : Int) (x : Ending) : Prop := (∃ k : Nat, k < o.size ∧ o[k]! = v ∧ x = .returned (.int .i64 k)) ∨ ((∀ j, j < o.size → o[j]! ≠ v) ∧ x = .returned (.int .i64 (-1)))
set_option maxRecDepth 100000 in
set_option maxHeartbeats 1000000 in
theorem indexN_any (b off cap : Nat) (o : Array Int) (v : Int) (w : World) (hR : RowN w b off o) (hn : o.size ≤ 1048576) :
    Calls Tryd.prog 90 #[.slice (some ⟨b, off, none⟩) o.size cap, .int .i64 v] w fun x w' => FoundN o v x ∧ w = w' := by
  have HR := Lib.hid hR
  have hmi : (o.size : Int) ≤ 1048576 := by omega
  clear hR
  go_enter Tryd.func90, Tryd.ntmps90
  go_wp2_with fail
  go_loop [8] (fun i => ∃ k : Nat, i = .int .i64 k ∧ k ≤ o.size ∧ Hid (∀ j, j < k → o[j]! ≠ v)) (fun i => o.size - (RowKit.intOf i).toNat)
  case atStart => exact ⟨0, rfl, Nat.zero_le _, fun j hj => absurd hj (Nat.not_lt_zero _)⟩
  case round =>
    obtain ⟨k, rfl, hk, HJ⟩ := hrel
    by_cases hlt : k < o.size
    · have x0 := HR.out.cell k hlt
      obtain ⟨x, hxe⟩ : ∃ x, x = o[k]! := ⟨_, rfl⟩
      rw [← hxe] at x0
      have XE := Lib.hid hxe
      have hki : (k : Int) < (o.size : Int) := by omega
      clear hxe
      by_cases hq : v = x
      · subst hq
        go_wp2_with fail
        go_ret
        exact ⟨.inl ⟨k, hlt, XE.out.symm, rfl⟩, rfl⟩
      · have hq2 : (v == x) = false := by simpa using hq
        have HQ := Lib.hid hq
        clear hq
        go_wp2_with fail
        go_round
        case rel =>
          refine ⟨k + 1, by go_num, by omega, fun j hj => ?_⟩
          by_cases e : j = k
          · subst e; rw [← XE.out]; exact fun h => HQ.out h.symm
          · exact HJ.out j (by omega)
        case measure => simp [RowKit.intOf]; omega
    · have hki : ¬ (k : Int) < (o.size : Int) := by omega
      go_wp2_with fail
      go_ret
      exact ⟨.inr ⟨fun j hj => HJ.out j (by omega), rfl⟩, rfl⟩
theorem containsN_any (b off cap : Nat) (o : Array Int) (v : Int) (c : Bool) (w : World) (hR : RowN w b off o) (hn : o.size ≤ 1048576) (hc : c = true ↔ ∃ k, k < o.size ∧ o[k]! = v) :
    Calls Tryd.prog 67 #[.slice (some ⟨b, off, none⟩) o.size cap, .int .i64 v] w fun x w' => x = .returned (.bool c) ∧ w = w' := by
  have HI := Lib.hid (indexN_any b off cap o v w hR hn)
  have HC := Lib.hid hc
  clear hR hc
  go_enter Tryd.func67, Tryd.ntmps67
  go_wp2_with fail
  refine HI.out.mono ?_
  rintro x w1 ⟨(⟨k, h1, h2, rfl⟩ | ⟨h1, rfl⟩), rfl⟩
  · have hk0 : (0 : Int) ≤ (k : Int) := by omega
    have HK := Lib.hid (show c = true from HC.out.2 ⟨k, h1, h2⟩)
    clear h2
    go_wp2_with fail
    go_ret
    exact ⟨retB HK.out.symm, rfl⟩
  · have HK := Lib.hid (show c = false by
      cases hq : c with
      | false => rfl
      | true => obtain ⟨k, h2, h3⟩ := HC.out.1 hq; exact absurd h3 (h1 k h2))
    clear h1
    go_wp2_with fail
    go_ret
    exact ⟨retB HK.out.symm, rfl⟩

def sizesA : Array Int := #[1, 2, 4, 8, 16, 32]
theorem pageSizes_any (w : World) : Calls Tryd.prog 41 #[] w fun x w' => x = .returned (.slice (some ⟨w.heap.size, 0, none⟩) 6 6) ∧ RowN w' w.heap.size 0 sizesA ∧ Below w.heap.size w w' := by
  go_enter Tryd.func41, Tryd.ntmps41
  go_wp2
  go_ret
  refine ⟨rfl, ⟨by simp, fun j hj => ?_⟩, (Below.refl _ _).alloc (Nat.le_refl _) _⟩
  have hj6 : j < 6 := hj
  match j, hj6 with
  | 0, _ => simp [sizesA]
  | 1, _ => simp [sizesA]
  | 2, _ => simp [sizesA]
  | 3, _ => simp [sizesA]
  | 4, _ => simp [sizesA]
  | 5, _ => simp [sizesA]
theorem sizes_has (n : Int) : sizeB n = true ↔ ∃ k, k < sizesA.size ∧ sizesA[k]! = n := by
  rw [sizeB_iff]
  constructor
  · rintro (h | h | h | h | h | h)
    · exact ⟨0, by decide, h.symm⟩
    · exact ⟨1, by decide, h.symm⟩
    · exact ⟨2, by decide, h.symm⟩
    · exact ⟨3, by decide, h.symm⟩
    · exact ⟨4, by decide, h.symm⟩
    · exact ⟨5, by decide, h.symm⟩
  · rintro ⟨k, hk, h⟩
    have hk6 : k < 6 := hk
    match k, hk6 with
    | 0, _ => exact .inl h.symm
    | 1, _ => exact .inr (.inl h.symm)
    | 2, _ => exact .inr (.inr (.inl h.symm))
    | 3, _ => exact .inr (.inr (.inr (.inl h.symm)))
    | 4, _ => exact .inr (.inr (.inr (.inr (.inl h.symm))))
    | 5, _ => exact .inr (.inr (.inr (.inr (.inr h.symm))))
theorem isPageSize_any (n : Int) (w : World) : Calls Tryd.prog 34 #[.int .i64 n] w fun x w' => x = .returned (.bool (sizeB n)) ∧ Below w.heap.size w w' := by
  have HP := Lib.hid (pageSizes_any w)
  have HC := Lib.hid (fun W (hR : RowN W w.heap.size 0 sizesA) => containsN_any w.heap.size 0 6 sizesA n (sizeB n) W hR (by decide) (sizes_has n))
  obtain ⟨c, hc⟩ : ∃ c, c = sizeB n := ⟨_, rfl⟩
  rw [← hc] at HC ⊢
  clear hc
  go_enter Tryd.func34, Tryd.ntmps34
  go_wp2_with fail
  refine HP.out.mono ?_
  rintro x w1 ⟨rfl, hR, hb⟩
  have HCC := Lib.hid (HC.out w1 hR)
  have HB := Lib.hid hb
  clear hR hb
  go_wp2_with fail
  refine HCC.out.mono ?_
  rintro x w2 ⟨rfl, rfl⟩
  go_wp2_with fail
  go_ret
  exact ⟨rfl, HB.out⟩
end Go.Proofs.YtmhloojnekjfhaaDoor
