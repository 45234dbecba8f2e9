
/- The switch of a tree, plain: what the program makes of all keys, each a case by itself, neighbours of one target put together, those of the rest left out, is what the model makes key by key. No walk. -/
import Derived.Test.YtndnbeijmhcepaaDoorKsSegP
import Derived.Test.YtndnbeijmhcepaaDoorKsTreeP
namespace Go.Proofs.YtndnbeijmhcepaaDoor
open Go.RowKit Go.Shelf Go.Lib Go.Sort

/-- Where a key goes. -/
def goS (t : TreeD) (k : Nat) : UInt8 := (trT t (k : Int)).1
def strS (c : UInt8) : ByteArray := ⟨#[c]⟩
def keyC (t : TreeD) (k : Nat) : CaseD := ⟨(k : Int), (k : Int), strS (goS t k), 0⟩
def keysC (t : TreeD) (n : Nat) : List CaseD := (List.range n).map (keyC t)
theorem keysC_succ (t : TreeD) (n : Nat) : keysC t (n + 1) = keysC t n ++ [keyC t n] := by simp [keysC, List.range_succ]
theorem keysC_length (t : TreeD) (n : Nat) : (keysC t n).length = n := by simp [keysC]
/-- The target of the key before. -/
def befS (t : TreeD) (n : Nat) : UInt8 := if n = 0 then 122 else goS t (n - 1)
/-- The model's cases behind n keys. -/
def swTo (t : TreeD) : Nat → List CaseD
  | 0 => []
  | n + 1 =>
    if goS t n = 122 then swTo t n
    else if goS t n = befS t n then (swTo t n).set ((swTo t n).length - 1) { (swTo t n)[(swTo t n).length - 1]! with high := (n : Int) }
    else swTo t n ++ [keyC t n]
def nzB (c : CaseD) : Bool := !(c.target.toList == (strS 122).toList)

theorem strS_beq (a b : UInt8) : ((strS a).toList == (strS b).toList) = decide (a = b) := by
  have e : ∀ c : UInt8, (strS c).toList = [c] := fun c => by
    rw [strS, ByteArray.toList_eq]
  rw [e, e]
  by_cases h : a = b <;> simp [h]
theorem mstep_list {j : CaseD → CaseD → Bool} {m : Array CaseD} {l : List CaseD} {c x : CaseD} (h : m.toList = l ++ [c]) : (mstep j m x).toList = if j c x = true then l ++ [oneC c x] else l ++ [c] ++ [x] := by
  have hs : m.size = l.length + 1 := by rw [← Array.length_toList, h]; simp
  have hg : m[l.length]! = c := by
    rw [getElem!_pos m l.length (by omega), ← Array.getElem_toList (by simp; omega)]
    simp [h]
  by_cases hj : j c x = true
  · rw [if_pos hj, mstep_join hs (by rw [hg]; exact hj), Array.toList_setIfInBounds, h, hg]
    simp
  · rw [if_neg hj, mstep_push hs (by rw [hg]; simpa using hj), Array.toList_push, h]
/-- What holds behind n keys. -/
def SwInv (t : TreeD) (n : Nat) : Prop :=
  swTo t n = (mergeA adjB (keysC t n)).toList.filter nzB ∧
  (n = 0 → (mergeA adjB (keysC t n)).toList = []) ∧
  (0 < n → ∃ l lo, (mergeA adjB (keysC t n)).toList = l ++ [⟨lo, (n : Int) - 1, strS (goS t (n - 1)), 0⟩])
theorem swInv (t : TreeD) : ∀ n, SwInv t n
  | 0 => ⟨rfl, fun _ => rfl, fun h => absurd h (Nat.lt_irrefl 0)⟩
  | n + 1 => by
    obtain ⟨h1, h2, h3⟩ := swInv t n
    have hm := mergeA_snoc adjB (keysC t n) (keyC t n)
    rw [← keysC_succ] at hm
    obtain ⟨m, hme⟩ : ∃ m, m = mergeA adjB (keysC t n) := ⟨_, rfl⟩
    rw [← hme] at h1 h2 h3 hm
    by_cases h0 : n = 0
    · have hnil : m = #[] := Array.toList_inj.1 (h2 h0)
      have hl : (mergeA adjB (keysC t (n + 1))).toList = [keyC t n] := by rw [hm, hnil]; rfl
      refine ⟨?_, fun h => by omega, fun _ => ⟨[], (n : Int), ?_⟩⟩
      · rw [hl, swTo, h1, hnil]
        have hb : befS t n = 122 := by simp [befS, h0]
        rw [hb]
        by_cases hz : goS t n = 122
        · simp [hz, nzB, keyC, strS_beq]
        · simp [hz, nzB, keyC, strS_beq]
      · rw [hl]; simp [keyC]
    · obtain ⟨l, lo, hl⟩ := h3 (by omega)
      have hb : befS t n = goS t (n - 1) := by simp [befS, h0]
      have hadj : adjB ⟨lo, (n : Int) - 1, strS (goS t (n - 1)), 0⟩ (keyC t n) = decide (goS t n = goS t (n - 1)) := by
        simp [adjB, keyC, strS_beq]
      have hst := mstep_list (j := adjB) (x := keyC t n) hl
      rw [hadj, ← hm] at hst
      by_cases he : goS t n = goS t (n - 1)
      · rw [if_pos (by simpa using he)] at hst
        have hone : oneC ⟨lo, (n : Int) - 1, strS (goS t (n - 1)), 0⟩ (keyC t n) = ⟨lo, (n : Int), strS (goS t n), 0⟩ := by simp [oneC, keyC, he]
        rw [hone] at hst
        refine ⟨?_, fun h => by omega, fun _ => ⟨l, lo, ?_⟩⟩
        · rw [swTo, hb, if_pos he, hst, h1, hl]
          by_cases hz : goS t n = 122
          · rw [if_pos hz]
            simp [List.filter_append, nzB, ← he, hz, strS_beq]
          · rw [if_neg hz]
            have hz' : goS t (n - 1) ≠ 122 := by rw [← he]; exact hz
            simp [List.filter_append, nzB, hz, hz', strS_beq, he]
        · rw [hst]
          simp
      · rw [if_neg (by simpa using he)] at hst
        refine ⟨?_, fun h => by omega, fun _ => ⟨l ++ [⟨lo, (n : Int) - 1, strS (goS t (n - 1)), 0⟩], (n : Int), ?_⟩⟩
        · rw [swTo, hb, if_neg he, hst, h1, hl]
          obtain ⟨L, hL⟩ : ∃ L, L = l ++ [⟨lo, (n : Int) - 1, strS (goS t (n - 1)), 0⟩] := ⟨_, rfl⟩
          rw [← hL, List.filter_append]
          by_cases hz : goS t n = 122
          · rw [if_pos hz]
            simp [nzB, keyC, hz, strS_beq]
          · rw [if_neg hz]
            simp [nzB, keyC, hz, strS_beq]
        · rw [hst]
          simp [keyC]
theorem sw_is (t : TreeD) (n : Nat) : (mergeA adjB (keysC t n)).toList.filter nzB = swTo t n := (swInv t n).1.symm
/-- Every case of it may stand in a row; there are no more of them than keys. -/
theorem swTo_len (t : TreeD) : ∀ n, (swTo t n).length ≤ n
  | 0 => Nat.le_refl _
  | n + 1 => by
    have := swTo_len t n
    rw [swTo]
    split
    · omega
    · split
      · rw [List.length_set]; omega
      · simp; omega
theorem keyC_ok (t : TreeD) (k : Nat) (hk : k < 32) : okB (keyC t k) = true := by
  rw [okB_iff]
  refine ⟨by simp [keyC], by simp [keyC], by simp [keyC]; omega, by simp [keyC], by simp [keyC], rfl⟩
theorem keysC_ok (t : TreeD) : ∀ c ∈ keysC t 32, okB c = true := fun c hc => by
  simp only [keysC, List.mem_map, List.mem_range] at hc
  obtain ⟨k, hk, rfl⟩ := hc
  exact keyC_ok t k hk
/-- The last case is that of the key before. -/
theorem swTo_last (t : TreeD) (n : Nat) (h0 : befS t n ≠ 122) : ∃ l lo, swTo t n = l ++ [⟨lo, (n : Int) - 1, strS (befS t n), 0⟩] := by
  obtain ⟨h1, _, h3⟩ := swInv t n
  have hn : 0 < n := by
    rcases Nat.eq_zero_or_pos n with h | h
    · exact absurd (by simp [befS, h]) h0
    · exact h
  have hb : befS t n = goS t (n - 1) := by simp [befS]; omega
  obtain ⟨l, lo, hl⟩ := h3 hn
  rw [hb] at h0 ⊢
  refine ⟨l.filter nzB, lo, ?_⟩
  rw [h1, hl, List.filter_append]
  simp [nzB, strS_beq, h0]
end Go.Proofs.YtndnbeijmhcepaaDoor
