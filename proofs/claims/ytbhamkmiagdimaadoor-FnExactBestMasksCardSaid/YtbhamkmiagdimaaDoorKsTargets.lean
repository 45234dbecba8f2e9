
/- TargetsOf: the program's and the model's. -/
import Derived.Test.YtbhamkmiagdimaaDoorKsDistinct
import Derived.Test.YtbhamkmiagdimaaDoorKsDec
import Derived.Test.YtbhamkmiagdimaaDoorKsKeyP
import Derived.Lib.AppendStr
namespace Go.Proofs.YtbhamkmiagdimaaDoor
open Go.RowKit Go.Shelf Go.Lib Go.Sort

def presTo (d : Array CaseD) (c : Int) (k : Nat) : Bool := (List.range k).any fun j => tgJ d j == c
theorem presTo_succ (d : Array CaseD) (c : Int) (k : Nat) : presTo d c (k + 1) = (presTo d c k || (tgJ d k == c)) := by simp [presTo, List.range_succ]
theorem presTo_iff (d : Array CaseD) (c : Int) (k : Nat) : presTo d c k = true ↔ ∃ j, j < k ∧ tgJ d j = c := by simp [presTo]
/-- The letters from a on that are there, below the i-th. -/
def lettersTo (d : Array CaseD) (i : Nat) : List Int := ((List.range i).filter fun (q : Nat) => presTo d (97 + (q : Int)) d.size).map fun (q : Nat) => 97 + (q : Int)
theorem lettersTo_succ (d : Array CaseD) (i : Nat) : lettersTo d (i + 1) = lettersTo d i ++ (if presTo d (97 + (i : Int)) d.size = true then [97 + (i : Int)] else []) := by
  unfold lettersTo
  rw [List.range_succ, List.filter_append, List.map_append]
  congr 1
  by_cases h : presTo d (97 + (i : Int)) d.size = true <;> simp [h]
theorem lettersTo_length (d : Array CaseD) (i : Nat) : (lettersTo d i).length ≤ i := by
  unfold lettersTo
  rw [List.length_map]
  exact Nat.le_trans (List.length_filter_le _ _) (by simp)
def lettersZ (d : Array CaseD) (z : Bool) : List Int := lettersTo d 8 ++ (if z then [122] else [])
def bytesZ (d : Array CaseD) (z : Bool) : List Int := (List.range d.size).map (tgJ d) ++ (if z then [122] else [])
theorem lettersTo_mem (d : Array CaseD) (i : Nat) (x : Int) : x ∈ lettersTo d i ↔ ∃ q : Nat, q < i ∧ 97 + (q : Int) = x ∧ ∃ j, j < d.size ∧ tgJ d j = x := by
  simp only [lettersTo, List.mem_map, List.mem_filter, List.mem_range, presTo_iff]
  constructor
  · rintro ⟨q, ⟨h1, h2⟩, rfl⟩
    exact ⟨q, h1, rfl, h2⟩
  · rintro ⟨q, h1, rfl, h2⟩
    exact ⟨q, ⟨h1, h2⟩, rfl⟩
theorem lettersZ_asc (d : Array CaseD) (z : Bool) : (lettersZ d z).Pairwise (· < ·) := by
  unfold lettersZ
  rw [List.pairwise_append]
  refine ⟨?_, by cases z <;> simp, fun x hx y hy => ?_⟩
  · unfold lettersTo
    rw [List.pairwise_map]
    exact (List.pairwise_lt_range.filter _).imp fun h => by omega
  · obtain ⟨q, hq, e, _⟩ := (lettersTo_mem d 8 x).1 hx
    cases z <;> simp at hy
    omega
theorem lettersZ_mem {d : Array CaseD} {rest : Int} (h : SwOK d rest) (z : Bool) (x : Int) : x ∈ lettersZ d z ↔ ∃ j, j < (bytesZ d z).toArray.size ∧ (bytesZ d z).toArray[j]! = x := by
  have hi : (∃ j, j < (bytesZ d z).toArray.size ∧ (bytesZ d z).toArray[j]! = x) ↔ x ∈ bytesZ d z := by
    rw [List.mem_iff_getElem]
    constructor
    · rintro ⟨j, hj, e⟩
      have hj' : j < (bytesZ d z).length := by simpa using hj
      exact ⟨j, hj', by simpa [hj'] using e⟩
    · rintro ⟨j, hj, e⟩
      exact ⟨j, by simpa using hj, by simpa [hj] using e⟩
  rw [hi]
  unfold lettersZ bytesZ
  rw [List.mem_append, List.mem_append, lettersTo_mem, List.mem_map]
  constructor
  · rintro (⟨q, h1, h2, j, h3, h4⟩ | h1)
    · exact .inl ⟨j, List.mem_range.2 h3, h4⟩
    · exact .inr h1
  · rintro (⟨j, h1, h2⟩ | h1)
    · have hj := List.mem_range.1 h1
      have hl := caseB_letter (h.case j hj)
      have e : tg0 d[j]!.target = x := h2
      rw [e] at hl
      exact .inl ⟨(x - 97).toNat, by omega, by omega, j, hj, h2⟩
    · exact .inr h1
noncomputable def targetsN (d : Array CaseD) (rest : Int) : ByteArray := if swB d rest = true then strOf (lettersZ d (decide (keysN d rest < 32))) else ⟨#[]⟩
def byteRow (d : Array CaseD) (k : Nat) : List Value := (List.range k).map fun j => Value.int .u8 (tgJ d j)
theorem byteRow_succ (d : Array CaseD) (n : Nat) : byteRow d n ++ [.int .u8 (tgJ d n)] = byteRow d (n + 1) := by simp [byteRow, List.range_succ]
theorem info5 : (Tryd.prog.info? 5).map (fun i => (i.zero, i.size, i.bytes)) = some (some (.int .u8 0), 1, 1) := by kernel_rfl

/-- Bytes of the call's own, as the sort asks for them. -/
theorem holds_bytes {w : World} {base : Nat} {v : Value} {ns : List Int} (h : w.ownsRow base 5 1 v ns.length (ns.map encB)) (hne : ns ≠ []) :
    ∃ g cap, v = .slice (some ⟨g, 0, none⟩) ns.length cap ∧ base ≤ g ∧ g < w.heap.size ∧ ns.length ≤ cap ∧ Holds encB w g 0 ns.toArray := by
  rcases h.2 with ⟨_, h2⟩ | ⟨g, cap, cur, rfl, hg, hh, hc, _⟩
  · exact absurd (List.eq_nil_of_length_eq_zero h2) hne
  · refine ⟨g, cap, rfl, hg, (Array.getElem?_eq_some_iff.1 hh).1, hc, fun j hj => ⟨?_, by simp [World.frozen?, hh]⟩⟩
    have hj' : j < ns.length := by simpa using hj
    rw [Nat.zero_add, h.cellAt j (by omega)]
    simp [hj']

/-- What is left of the row behind sort and Compact, as a text. -/
theorem compactB_any (g cap : Nat) (d : Array Int) (w : World) (hH : Holds encB w g 0 d) (hn : d.size ≤ 12) (hcap : d.size ≤ cap) :
    Calls Tryd.prog 114 #[.slice (some ⟨g, 0, none⟩) d.size cap] w fun e w' => e = .returned (.slice (some ⟨g, 0, none⟩) (compactUpTo d d.size).length cap) ∧ (∀ j v, ((compactUpTo d d.size).map encB)[j]? = some v → w'.cell? ⟨g, j, none⟩ = some v) ∧ w.grownBy w' (some g) := by
  refine (AnyE.slices_Compact Tryd.laysCompact encB (fun _ => rfl) (EqlAt.intD _ _ _) (NeqAt.intD _ _ _) 0 Tryd.zeroValue5 g 0 cap d w hH (by omega) hcap).mono ?_
  rintro e w' ⟨h1, q, rfl⟩
  have hle : (compactUpTo d d.size).length ≤ d.size := by
    unfold compactUpTo
    rw [List.length_map]
    exact Nat.le_trans (List.length_filter_le _ _) (by simp)
  refine ⟨h1, fun j v hj => ?_, ?_⟩
  · obtain ⟨hj', rfl⟩ := List.getElem?_eq_some_iff.1 hj
    have hj2 : j < (compactUpTo d d.size).length := by simpa using hj'
    have := cell?_putRow encB (Sort.ahead w q) g 0 d (compactUpTo d d.size ++ List.replicate (d.size - (compactUpTo d d.size).length) 0).toArray (fun t ht => hH t ht) (by simp; omega) j (by simp; omega)
    rw [Nat.zero_add] at this
    rw [this]
    simp [List.getElem?_append_left hj2, hj2]
  · refine ⟨rfl, rfl, rfl, by rw [size_putRow]; exact Nat.le_refl _, fun k hk hne => ?_⟩
    unfold putRow mapBlock Sort.ahead
    simp only [Array.getElem?_modify]
    rw [if_neg (fun e => hne (by rw [e]))]

theorem bytes_string {W : World} {g cap : Nat} (ns : List Int) (h : ∀ j v, (ns.map encB)[j]? = some v → W.cell? ⟨g, j, none⟩ = some v) :
    Sem.run Tryd.prog (convert 112 9 (.slice (some ⟨g, 0, none⟩) ns.length cap)) W = .ok (.string (strOf ns)) W := by
  have hl := run_loadCells_list (P := Tryd.prog) (w := W) ⟨g, 0, none⟩ (ns.map encB) (fun j v hj => by rw [Addr.add_lit, Nat.zero_add]; exact h j v hj)
  rw [List.length_map] at hl
  rw [run_convert_bytes_string _ _ _ _ _ _ _ Tryd.underlying112 Tryd.underlying5 Tryd.underlying9, run_bytesToString _ _ _ _ ns hl]
  rfl
end Go.Proofs.YtbhamkmiagdimaaDoor
