
/- What is read of a table. -/
import Derived.Test.YtbbejkimgkpfkaaDoorKsTabI
import Derived.Test.YtbbejkimgkpfkaaDoorKsDens
import Derived.Test.YtbbejkimgkpfkaaDoorKsLookI
namespace Go.Proofs.YtbbejkimgkpfkaaDoor
open Go.RowKit

theorem tabS_get {d : Array CaseD} {rest : Int} (h : SwOK d rest) (lo n i : Nat) (hi : i < n) : (tabS d lo n).extract i (i + 1) = goesN d ((lo + i : Nat) : Int) := by
  rw [goesN_byte h]
  apply ByteArray.ext
  rw [ByteArray.data_extract]
  apply Array.ext
  · simp [tabS, tabL]; omega
  · intro j h1 h2
    obtain rfl : j = 0 := by simp at h2; omega
    simp [tabS, tabL]
theorem tab_all {d : Array CaseD} {rest : Int} (h : SwOK d rest) (lo n : Nat) : allT (tabS d lo n) = true := by
  unfold allT
  rw [List.all_eq_true]
  intro c hc
  have hc' : c ∈ tabL d lo n := by simpa [tabS] using hc
  obtain ⟨i, _, rfl⟩ := List.mem_map.1 hc'
  have h1 := goB_range h (lo + i)
  have h2 := tgt_cov h (lo + i)
  have h3 : ((UInt8.ofNat (goB d (lo + i)).toNat).toNat : Int) = goB d (lo + i) := by
    rw [UInt8.toNat_ofNat']
    omega
  rw [tgWB, h3, h2]
  cases hq : covB d (lo + i)
  · have : atN d ((lo + i : Nat) : Int) = -1 := by
      rcases atN_cases d ((lo + i : Nat) : Int) with ⟨k, _, h4, _⟩ | ⟨h4, _⟩
      · rw [covB, h4] at hq; simp at hq
      · exact h4
    rw [goB_miss this]; rfl
  · rfl
theorem look_tab {d : Array CaseD} {rest : Int} (h : SwOK d rest) {lo n i : Nat} (hi : i < n) (h32 : lo + n ≤ 32) :
    lookOK (tabS d lo n) (lo : Int) ((lo + i : Nat) : Int) = true ∧ lookS (tabS d lo n) (lo : Int) ((lo + i : Nat) : Int) = goesN d ((lo + i : Nat) : Int) := by
  have h0 : lookOK (tabS d lo n) (lo : Int) ((lo + i : Nat) : Int) = true := lookOK_yes (tab_all h lo n) (by simp [keyB]; omega) (by simp [keyB]; omega) (by rw [tabS_size]; omega)
  refine ⟨h0, ?_⟩
  rw [lookS, if_pos h0, if_pos (by rw [tabS_size]; omega), ← tabS_get h lo n i hi]
  congr 1 <;> omega
theorem okN_yes {d : Array CaseD} {rest : Int} (h : SwOK d rest) {key : Nat} (hk : key ≤ 31) : okN d rest key = true := by
  rw [okN, (swB_iff _ _).2 h]
  simp [keyB]
  omega
theorem targetN_yes {d : Array CaseD} {rest : Int} (h : SwOK d rest) {key : Nat} (hk : key ≤ 31) : targetN d rest key = goesN d key := by rw [targetN, if_pos (okN_yes h hk)]
theorem caseN_yes {d : Array CaseD} {rest : Int} (h : SwOK d rest) (key : Nat) : covB d key = decide (0 ≤ caseN d rest key) := by rw [caseN, if_pos ((swB_iff _ _).2 h), covB]
end Go.Proofs.YtbbejkimgkpfkaaDoor
