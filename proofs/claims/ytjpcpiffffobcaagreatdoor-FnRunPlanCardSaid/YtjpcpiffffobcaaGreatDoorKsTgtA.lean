
/- Plain lists: a sorted row compacted is the one ascending list of its elements. · TargetsOf: the program's and the model's. · TargetsOf of the program. · TargetsOf of the model. · The targets of all keys, met in order; how many keys have a case. · Whether a letter is in a text, as the laws look for it. -/
import Derived.Test.YtjpcpiffffobcaaGreatDoorKsBytes
import Derived.Test.YtjpcpiffffobcaaGreatDoorKsDec
import Derived.Test.YtjpcpiffffobcaaGreatDoorKsKeyP
import Derived.Lib.AppendStr
import Derived.Test.YtjpcpiffffobcaaGreatDoorKsGo
namespace Go.Proofs.YtjpcpiffffobcaaGreatDoor
open Go.RowKit Go.Shelf Go.Lib Go.Sort

theorem asc_ext : ∀ {l1 l2 : List Int}, l1.Pairwise (· < ·) → l2.Pairwise (· < ·) → (∀ x, x ∈ l1 ↔ x ∈ l2) → l1 = l2
  | [], [], _, _, _ => rfl
  | [], b :: l2, _, _, h => absurd ((h b).2 (by simp)) (by simp)
  | a :: l1, [], _, _, h => absurd ((h a).1 (by simp)) (by simp)
  | a :: l1, b :: l2, h1, h2, h => by
    rw [List.pairwise_cons] at h1 h2
    have hab : a = b := by
      have ha := (h a).1 (by simp)
      have hb := (h b).2 (by simp)
      simp only [List.mem_cons] at ha hb
      rcases ha with ha | ha
      · exact ha
      · rcases hb with hb | hb
        · exact hb.symm
        · have := h1.1 b hb
          have := h2.1 a ha
          omega
    subst hab
    have ht : ∀ x, x ∈ l1 ↔ x ∈ l2 := fun x => by
      have hx := h x
      simp only [List.mem_cons] at hx
      constructor
      · intro hm
        rcases hx.1 (.inr hm) with e | e
        · have := h1.1 x hm; omega
        · exact e
      · intro hm
        rcases hx.2 (.inr hm) with e | e
        · have := h2.1 x hm; omega
        · exact e
    rw [asc_ext h1.2 h2.2 ht]

theorem compact_asc {d : Array Int} (hs : ∀ i j, i < j → j < d.size → d[i]! ≤ d[j]!) : ∀ m, m ≤ d.size →
    (compactUpTo d m).Pairwise (· < ·) ∧ (∀ x ∈ compactUpTo d m, ∃ j, j < m ∧ d[j]! = x) ∧ (∀ j, j < m → d[j]! ∈ compactUpTo d m)
  | 0, _ => ⟨by simp [compactUpTo], by simp [compactUpTo], fun j hj => absurd hj (Nat.not_lt_zero j)⟩
  | m + 1, hm => by
    obtain ⟨h1, h2, h3⟩ := compact_asc hs m (by omega)
    rw [compactUpTo_succ]
    cases hk : keeps d m with
    | true =>
      rw [if_pos rfl]
      refine ⟨?_, ?_, ?_⟩
      · rw [List.pairwise_append]
        refine ⟨h1, by simp, fun x hx y hy => ?_⟩
        simp only [List.mem_singleton] at hy
        subst hy
        obtain ⟨j, hj, rfl⟩ := h2 x hx
        simp only [keeps, decide_eq_true_eq] at hk
        rcases hk with hk | hk
        · omega
        · have a := hs (m - 1) m (by omega) (by omega)
          rcases Nat.lt_or_ge j (m - 1) with hj' | hj'
          · have b := hs j (m - 1) hj' (by omega)
            omega
          · obtain rfl : j = m - 1 := by omega
            omega
      · intro x hx
        rcases List.mem_append.1 hx with hx | hx
        · obtain ⟨j, hj, e⟩ := h2 x hx
          exact ⟨j, by omega, e⟩
        · simp only [List.mem_singleton] at hx
          exact ⟨m, by omega, hx.symm⟩
      · intro j hj
        rcases Nat.lt_or_ge j m with hj' | hj'
        · exact List.mem_append_left _ (h3 j hj')
        · obtain rfl : j = m := by omega
          exact List.mem_append_right _ (by simp)
    | false =>
      simp only [Bool.false_eq_true, if_false, List.append_nil]
      refine ⟨h1, fun x hx => ?_, fun j hj => ?_⟩
      · obtain ⟨j, hj, e⟩ := h2 x hx
        exact ⟨j, by omega, e⟩
      · rcases Nat.lt_or_ge j m with hj' | hj'
        · exact h3 j hj'
        · obtain rfl : j = m := by omega
          simp only [keeps, decide_eq_false_iff_not, not_or, ne_eq, Decidable.not_not] at hk
          rw [hk.2]
          exact h3 (j - 1) (by omega)

/-- The row sorted and compacted: the one ascending list of its elements. -/
theorem sort_compact (d : Array Int) (l : List Int) (hl : l.Pairwise (· < ·)) (hm : ∀ x, x ∈ l ↔ ∃ j, j < d.size ∧ d[j]! = x) :
    compactUpTo (insertionSort ltZ d 0 d.size) d.size = l ∧ (insertionSort ltZ d 0 d.size).size = d.size := by
  obtain ⟨⟨h1, _, h2⟩, h3⟩ := insertionSort_holds swo_ltZ d 0 d.size (Nat.zero_le _) (Nat.le_refl _)
  generalize insertionSort ltZ d 0 d.size = s at h1 h2 h3 ⊢
  refine ⟨?_, h1⟩
  obtain ⟨a, b, c⟩ := compact_asc (d := s) (fun i j hi hj => by
    have := h3 i j (Nat.zero_le _) hi (by omega)
    simp only [ltZ, decide_eq_false_iff_not] at this
    omega) d.size (by omega)
  refine asc_ext a hl fun x => ?_
  rw [hm x]
  have hmem : ∀ y, y ∈ s.toList ↔ y ∈ d.toList := fun y => by
    have e1 : s.extract 0 d.size = s := by rw [← h1]; simp
    have e2 : d.extract 0 d.size = d := by simp
    rw [e1, e2] at h2
    exact h2.mem_iff
  have hidx : ∀ (q : Array Int) y, y ∈ q.toList ↔ ∃ j, j < q.size ∧ q[j]! = y := fun q y => by
    rw [List.mem_iff_getElem]
    constructor
    · rintro ⟨j, hj, e⟩
      have hj' : j < q.size := by simpa using hj
      exact ⟨j, hj', by simpa [hj'] using e⟩
    · rintro ⟨j, hj, e⟩
      exact ⟨j, by simpa using hj, by simpa [hj] using e⟩
  constructor
  · intro hx
    obtain ⟨j, hj, e⟩ := b x hx
    exact (hidx d x).1 ((hmem x).1 ((hidx s x).2 ⟨j, by omega, e⟩))
  · intro hx
    obtain ⟨j, hj, e⟩ := (hidx s x).1 ((hmem x).2 ((hidx d x).2 hx))
    rw [← e]
    exact c j (by omega)

/-- Bytes as a text. -/
def strOf (ns : List Int) : ByteArray := ns.foldl (fun r n => r.push (UInt8.ofNat n.toNat)) ByteArray.empty
theorem strOf_snoc (ns : List Int) (c : Int) : strOf (ns ++ [c]) = strOf ns ++ (⟨#[UInt8.ofNat c.toNat]⟩ : ByteArray) := by
  unfold strOf
  rw [List.foldl_append]
  simp only [List.foldl_cons, List.foldl_nil]
  generalize ns.foldl _ _ = r
  apply ByteArray.ext
  simp [ByteArray.data_append, ByteArray.data_push]
theorem push_size : ∀ (ns : List Int) (r : ByteArray), (ns.foldl (fun r n => r.push (UInt8.ofNat n.toNat)) r).size = r.size + ns.length
  | [], _ => rfl
  | n :: ns, r => by rw [List.foldl_cons, push_size ns, ByteArray.size_push, List.length_cons]; omega
theorem strOf_size (ns : List Int) : (strOf ns).size = ns.length := by
  rw [strOf, push_size]
  show 0 + ns.length = ns.length
  omega
end Go.Proofs.YtjpcpiffffobcaaGreatDoor

namespace Go.Proofs.YtjpcpiffffobcaaGreatDoor
open Go.RowKit Go.Shelf Go.Lib Go.Sort

def presTo (d : Array CaseD) (c : Int) (k : Nat) : Bool := (List.range k).any fun j => tgJ d j == c
theorem presTo_succ (d : Array CaseD) (c : Int) (k : Nat) : presTo d c (k + 1) = (presTo d c k || (tgJ d k == c)) := by simp [presTo, List.range_succ]
theorem presTo_iff (d : Array CaseD) (c : Int) (k : Nat) : presTo d c k = true ↔ ∃ j, j < k ∧ tgJ d j = c := by simp [presTo]
/-- The letters from a on that are there, below the i-th. -/
def lettersTo (d : Array CaseD) (i : Nat) : List Int := ((List.range i).filter fun (q : Nat) => presTo d (97 + (q : Int)) d.size).map fun (q : Nat) => 97 + (q : Int)
theorem lettersTo_succ (d : Array CaseD) (i : Nat) : lettersTo d (i + 1) = lettersTo d i ++ (if presTo d (97 + (i : Int)) d.size = true then [97 + (i : Int)] else []) := by
  unfold lettersTo
  rw [List.range_succ, List.filter_append, List.map_append]
  congr 1
  by_cases h : presTo d (97 + (i : Int)) d.size = true <;> simp [h]
theorem lettersTo_length (d : Array CaseD) (i : Nat) : (lettersTo d i).length ≤ i := by
  unfold lettersTo
  rw [List.length_map]
  exact Nat.le_trans (List.length_filter_le _ _) (by simp)
def lettersZ (d : Array CaseD) (z : Bool) : List Int := lettersTo d 8 ++ (if z then [122] else [])
def bytesZ (d : Array CaseD) (z : Bool) : List Int := (List.range d.size).map (tgJ d) ++ (if z then [122] else [])
theorem lettersTo_mem (d : Array CaseD) (i : Nat) (x : Int) : x ∈ lettersTo d i ↔ ∃ q : Nat, q < i ∧ 97 + (q : Int) = x ∧ ∃ j, j < d.size ∧ tgJ d j = x := by
  simp only [lettersTo, List.mem_map, List.mem_filter, List.mem_range, presTo_iff]
  constructor
  · rintro ⟨q, ⟨h1, h2⟩, rfl⟩
    exact ⟨q, h1, rfl, h2⟩
  · rintro ⟨q, h1, rfl, h2⟩
    exact ⟨q, ⟨h1, h2⟩, rfl⟩
theorem lettersZ_asc (d : Array CaseD) (z : Bool) : (lettersZ d z).Pairwise (· < ·) := by
  unfold lettersZ
  rw [List.pairwise_append]
  refine ⟨?_, by cases z <;> simp, fun x hx y hy => ?_⟩
  · unfold lettersTo
    rw [List.pairwise_map]
    exact (List.pairwise_lt_range.filter _).imp fun h => by omega
  · obtain ⟨q, hq, e, _⟩ := (lettersTo_mem d 8 x).1 hx
    cases z <;> simp at hy
    omega
theorem lettersZ_mem {d : Array CaseD} {rest : Int} (h : SwOK d rest) (z : Bool) (x : Int) : x ∈ lettersZ d z ↔ ∃ j, j < (bytesZ d z).toArray.size ∧ (bytesZ d z).toArray[j]! = x := by
  have hi : (∃ j, j < (bytesZ d z).toArray.size ∧ (bytesZ d z).toArray[j]! = x) ↔ x ∈ bytesZ d z := by
    rw [List.mem_iff_getElem]
    constructor
    · rintro ⟨j, hj, e⟩
      have hj' : j < (bytesZ d z).length := by simpa using hj
      exact ⟨j, hj', by simpa [hj'] using e⟩
    · rintro ⟨j, hj, e⟩
      exact ⟨j, by simpa using hj, by simpa [hj] using e⟩
  rw [hi]
  unfold lettersZ bytesZ
  rw [List.mem_append, List.mem_append, lettersTo_mem, List.mem_map]
  constructor
  · rintro (⟨q, h1, h2, j, h3, h4⟩ | h1)
    · exact .inl ⟨j, List.mem_range.2 h3, h4⟩
    · exact .inr h1
  · rintro (⟨j, h1, h2⟩ | h1)
    · have hj := List.mem_range.1 h1
      have hl := caseB_letter (h.case j hj)
      have e : tg0 d[j]!.target = x := h2
      rw [e] at hl
      exact .inl ⟨(x - 97).toNat, by omega, by omega, j, hj, h2⟩
    · exact .inr h1
noncomputable def targetsN (d : Array CaseD) (rest : Int) : ByteArray := if swB d rest = true then strOf (lettersZ d (decide (keysN d rest < 32))) else ⟨#[]⟩
def byteRow (d : Array CaseD) (k : Nat) : List Value := (List.range k).map fun j => Value.int .u8 (tgJ d j)
theorem byteRow_succ (d : Array CaseD) (n : Nat) : byteRow d n ++ [.int .u8 (tgJ d n)] = byteRow d (n + 1) := by simp [byteRow, List.range_succ]
theorem info5 : (Tryz.prog.info? 5).map (fun i => (i.zero, i.size, i.bytes)) = some (some (.int .u8 0), 1, 1) := by kernel_rfl

/-- Bytes of the call's own, as the sort asks for them. -/
theorem holds_bytes {w : World} {base : Nat} {v : Value} {ns : List Int} (h : w.ownsRow base 5 1 v ns.length (ns.map encB)) (hne : ns ≠ []) :
    ∃ g cap, v = .slice (some ⟨g, 0, none⟩) ns.length cap ∧ base ≤ g ∧ g < w.heap.size ∧ ns.length ≤ cap ∧ Holds encB w g 0 ns.toArray := by
  rcases h.2 with ⟨_, h2⟩ | ⟨g, cap, cur, rfl, hg, hh, hc, _⟩
  · exact absurd (List.eq_nil_of_length_eq_zero h2) hne
  · refine ⟨g, cap, rfl, hg, (Array.getElem?_eq_some_iff.1 hh).1, hc, fun j hj => ⟨?_, by simp [World.frozen?, hh]⟩⟩
    have hj' : j < ns.length := by simpa using hj
    rw [Nat.zero_add, h.cellAt j (by omega)]
    simp [hj']

/-- What is left of the row behind sort and Compact, as a text. -/
theorem compactB_any (g cap : Nat) (d : Array Int) (w : World) (hH : Holds encB w g 0 d) (hn : d.size ≤ 12) (hcap : d.size ≤ cap) :
    Calls Tryz.prog 164 #[.slice (some ⟨g, 0, none⟩) d.size cap] w fun e w' => e = .returned (.slice (some ⟨g, 0, none⟩) (compactUpTo d d.size).length cap) ∧ (∀ j v, ((compactUpTo d d.size).map encB)[j]? = some v → w'.cell? ⟨g, j, none⟩ = some v) ∧ w.grownBy w' (some g) := by
  refine (AnyE.slices_Compact Tryz.laysCompact encB (fun _ => rfl) (EqlAt.intD _ _ _) (NeqAt.intD _ _ _) 0 Tryz.zeroValue5 g 0 cap d w hH (by omega) hcap).mono ?_
  rintro e w' ⟨h1, q, rfl⟩
  have hle : (compactUpTo d d.size).length ≤ d.size := by
    unfold compactUpTo
    rw [List.length_map]
    exact Nat.le_trans (List.length_filter_le _ _) (by simp)
  refine ⟨h1, fun j v hj => ?_, ?_⟩
  · obtain ⟨hj', rfl⟩ := List.getElem?_eq_some_iff.1 hj
    have hj2 : j < (compactUpTo d d.size).length := by simpa using hj'
    have := cell?_putRow encB (Sort.ahead w q) g 0 d (compactUpTo d d.size ++ List.replicate (d.size - (compactUpTo d d.size).length) 0).toArray (fun t ht => hH t ht) (by simp; omega) j (by simp; omega)
    rw [Nat.zero_add] at this
    rw [this]
    simp [List.getElem?_append_left hj2, hj2]
  · refine ⟨rfl, rfl, rfl, by rw [size_putRow]; exact Nat.le_refl _, fun k hk hne => ?_⟩
    unfold putRow mapBlock Sort.ahead
    simp only [Array.getElem?_modify]
    rw [if_neg (fun e => hne (by rw [e]))]

theorem bytes_string {W : World} {g cap : Nat} (ns : List Int) (h : ∀ j v, (ns.map encB)[j]? = some v → W.cell? ⟨g, j, none⟩ = some v) :
    Sem.run Tryz.prog (convert 39 9 (.slice (some ⟨g, 0, none⟩) ns.length cap)) W = .ok (.string (strOf ns)) W := by
  have hl := run_loadCells_list (P := Tryz.prog) (w := W) ⟨g, 0, none⟩ (ns.map encB) (fun j v hj => by rw [Addr.add_lit, Nat.zero_add]; exact h j v hj)
  rw [List.length_map] at hl
  rw [run_convert_bytes_string _ _ _ _ _ _ _ Tryz.underlying39 Tryz.underlying5 Tryz.underlying9, run_bytesToString _ _ _ _ ns hl]
  rfl
end Go.Proofs.YtjpcpiffffobcaaGreatDoor

namespace Go.Proofs.YtjpcpiffffobcaaGreatDoor
open Go.RowKit Go.Shelf Go.Lib Go.Sort

theorem caseB_target' {c : CaseD} (h : caseB c = true) : c.target.size = 1 := by simp [caseB, oneB] at h; exact h.1.1.1.1.1
theorem retTg {a c : ByteArray} {b e : Bool} (h : a = c) (h2 : b = e) : Ending.returned (.tuple #[.string a, .bool b]) = .returned (.tuple #[.string c, .bool e]) := by rw [h, h2]
theorem byteRow_eq (d : Array CaseD) : byteRow d d.size = (bytesZ d false).map encB := by simp [byteRow, bytesZ]
theorem byteRow_z (d : Array CaseD) : byteRow d d.size ++ [.int .u8 122] = (bytesZ d true).map encB := by simp [byteRow, bytesZ]

/-- The tail of TargetsOf: sort, compact, text: over a row of the call's own. -/
theorem tail_pack {d : Array CaseD} {rest : Int} {z : Bool} (hok : SwOK d rest) : (bytesZ d z).toArray.size ≤ 12 ∧ compactUpTo (insertionSort ltZ (bytesZ d z).toArray 0 (bytesZ d z).toArray.size) (bytesZ d z).toArray.size = lettersZ d z ∧ (insertionSort ltZ (bytesZ d z).toArray 0 (bytesZ d z).toArray.size).size = (bytesZ d z).toArray.size := by
  have h := sort_compact (bytesZ d z).toArray (lettersZ d z) (lettersZ_asc d z) (lettersZ_mem hok z)
  refine ⟨?_, h.1, h.2⟩
  have := hok.size
  cases z <;> simp [bytesZ] <;> omega

def sortedZ (d : Array CaseD) (z : Bool) : Array Int := insertionSort ltZ (bytesZ d z).toArray 0 (bytesZ d z).toArray.size
theorem sortZ_any {d : Array CaseD} {rest : Int} {z : Bool} (hok : SwOK d rest) (g cap n : Nat) (hn : n = (bytesZ d z).length) (w : World) (hH : Holds encB w g 0 (bytesZ d z).toArray) :
    Calls Tryz.prog 163 #[.slice (some ⟨g, 0, none⟩) n cap] w fun e w' => e = .returned (.tuple #[]) ∧ Holds encB w' g 0 (sortedZ d z) ∧ w.grownBy w' (some g) := by
  have e : n = (bytesZ d z).toArray.size := by simpa using hn
  rw [e]
  exact sortB_any g cap _ w hH (tail_pack hok).1
theorem compactZ_any {d : Array CaseD} {rest : Int} {z : Bool} (hok : SwOK d rest) (g cap n : Nat) (hn : n = (bytesZ d z).length) (hcap : n ≤ cap) (w : World) (hH : Holds encB w g 0 (sortedZ d z)) :
    Calls Tryz.prog 164 #[.slice (some ⟨g, 0, none⟩) n cap] w fun e w' => e = .returned (.slice (some ⟨g, 0, none⟩) (lettersZ d z).length cap) ∧ (∀ j v, ((lettersZ d z).map encB)[j]? = some v → w'.cell? ⟨g, j, none⟩ = some v) ∧ w.grownBy w' (some g) := by
  obtain ⟨h1, h2, h3⟩ := tail_pack (z := z) hok
  have e0 : (sortedZ d z).size = (bytesZ d z).toArray.size := h3
  have e : n = (sortedZ d z).size := by rw [e0]; simpa using hn
  have h := compactB_any g cap (sortedZ d z) w hH (by rw [e0]; exact h1) (by omega)
  rw [← e] at h
  have e2 : compactUpTo (sortedZ d z) n = lettersZ d z := by rw [e, e0]; exact h2
  rw [e2] at h
  exact h

set_option maxRecDepth 100000 in
set_option maxHeartbeats 2000000 in
theorem implTargets_any (b off cap : Nat) (d : Array CaseD) (rest : Int) (w : World) (hR : RowC w b off d) (hE : ErrAt w) (hcap : d.size ≤ cap) (hmax : cap ≤ maxLen) :
    Calls Tryz.prog 160 #[.agg #[.slice (some ⟨b, off, none⟩) d.size cap, .int .i64 rest]] w fun x w' => x = .returned (.tuple #[.string (targetsN d rest), .bool (swB d rest)]) ∧ RowKit.Below w.heap.size w w' := by
  have hv := fun W (hW : RowKit.Below w.heap.size w W) => switchValid_any b off cap d rest W (hR.below hW) (hE.below hW) hcap hmax
  have hk := fun W (hW : RowKit.Below w.heap.size w W) => implKeys_any b off cap d rest W (hR.below hW) (hE.below hW) hcap hmax
  have HKY := Lib.hid hk
  have HR := Lib.hid hR
  obtain ⟨wa, hwa⟩ : ∃ wa, wa = w.alloc (.cells #[.slice (some ⟨b, off, none⟩) d.size cap, .int .i64 rest] 32) := ⟨_, rfl⟩
  have c0 : wa.cell? ⟨w.heap.size, 0, none⟩ = some (.slice (some ⟨b, off, none⟩) d.size cap) := by rw [hwa]; simp
  have c1 : wa.cell? ⟨w.heap.size, 1, none⟩ = some (.int .i64 rest) := by rw [hwa]; simp
  have hz : w.heap.size < wa.heap.size := by rw [hwa]; simp
  have hba : RowKit.Below w.heap.size w wa := by rw [hwa]; exact (Below.refl _ _).alloc (Nat.le_refl _) _
  have HA := Lib.hid hba
  have C0 := Lib.hid c0
  have C1 := Lib.hid c1
  have HWA := Lib.hid hwa
  clear hba c0 c1 hwa hR hE hk
  cases hs : swB d rest
  all_goals
    simp only [hs] at hv
    have HV := Lib.hid hv
    have HS := Lib.hid hs
    clear hv hs
    go_enter Tryz.func160, Tryz.ntmps160
    go_wp2_with fail
    rw [← HWA.out]
    refine (HV.out _ HA.out).mono ?_
    rintro x w1 ⟨rfl, hb⟩
    have HB := Lib.hid hb
    have hz1 := hb.size
    have a0 := (hb.cell (p := ⟨w.heap.size, 0, none⟩) hz).trans C0.out
    have a1 := (hb.cell (p := ⟨w.heap.size, 1, none⟩) hz).trans C1.out
    clear hb
    go_wp2_with fail
  · go_ret2
    exact ⟨retTg (by rw [targetsN, if_neg (by rw [HS.out]; exact Bool.false_ne_true)]) rfl, HA.out.trans (HB.out.mono (by omega))⟩
  · have HO := Lib.hid ((swB_iff _ _).1 HS.out)
    have h8 : (d.size : Int) ≤ 8 := by have := HO.out.size; omega
    have h8n : d.size ≤ 8 := HO.out.size
    obtain ⟨i0, hi, hi0, hi1, hi2⟩ := info_parts info5
    clear a0 a1
    go_loopw [4, 13] (fun v i wr => ∃ k : Nat, i = .int .i64 k ∧ k ≤ d.size ∧ Hid (wr.ownsRow wa.heap.size 5 1 v k (byteRow d k)) ∧ Hid (RowKit.Below wa.heap.size wa wr) ∧ wa.heap.size ≤ wr.heap.size) (fun _ i _ => d.size - (intOf i).toNat)
    case atStart => exact ⟨0, rfl, Nat.zero_le _, ⟨rfl, .inl ⟨rfl, rfl⟩⟩, HB.out, hz1⟩
    case round =>
      obtain ⟨k, rfl, hk, HOwn, HW, hw2⟩ := hrel
      have HWW := Lib.hid (HA.out.trans (HW.out.mono (by omega)))
      by_cases hlt : k < d.size
      · have hx := HR.out.below HWW.out
        have x0 := hx.low k hlt
        have x1 := hx.high k hlt
        have x2 := hx.target k hlt
        have x3 := hx.weight k hlt
        have hts := caseB_target' (HO.out.case k hlt)
        clear hx
        obtain ⟨x, hxe⟩ : ∃ x, x = d[k]! := ⟨_, rfl⟩
        rw [← hxe] at x0 x1 x2 x3 hts
        have HKW := Lib.hid (show Lib.strCells x.target = [.int .u8 (tgJ d k)] by rw [strCells_one hts, tgJ, ← hxe])
        have HTS := Lib.hid hts
        have hts2 : x.target.size ≤ 1 := by omega
        clear hxe hts
        go_wp2_with (at_builtin; refine wpList_append_own_string _ rfl _ _ 39 9 rfl wa.heap.size 5 i0 Tryz.underlying39 Tryz.underlying9 hi hi0 hi1 hi2 _ _ _ rfl (HOwn.out.alloc _) x.target rfl ?c3 ?c4 ?c5 ?_)
        case c3 => unfold maxLen; omega
        case c4 => omega
        case c5 => simp; omega
        intro v' w3 hown3 hgrow _
        rw [HKW.out, byteRow_succ, HTS.out] at hown3
        have HO3 := Lib.hid hown3
        have hb4 : RowKit.Below wa.heap.size wa w3 := (HW.out.alloc hw2 _).grown hgrow (by simp; omega) (fun q hq => (HOwn.out.lt q hq).1)
        have HW4 := Lib.hid hb4
        have hz4 := hb4.size
        clear hown3 hgrow hb4
        go_wp2
        go_roundw
        case rel => exact ⟨k + 1, by go_num, by omega, HO3.out, HW4.out, hz4⟩
        case measure => simp [intOf]; omega
      · have hke : k = d.size := by omega
        subst hke
        have b0 := (HW.out.cell (p := ⟨w.heap.size, 0, none⟩) hz).trans C0.out
        have b1 := (HW.out.cell (p := ⟨w.heap.size, 1, none⟩) hz).trans C1.out
        have HKC := Lib.hid (HKY.out _ HWW.out)
        go_wp2_with fail
        refine HKC.out.mono ?_
        rintro x w4 ⟨rfl, hb4⟩
        have HOw4 := Lib.hid (owns_below HOwn.out hb4)
        have HW4 := Lib.hid (HW.out.trans (hb4.mono hw2))
        have hz4 := HW4.out.size
        clear hb4 b0 b1
        by_cases hkz : keysN d rest < 32
        · have HDZ := Lib.hid (show decide (keysN d rest < 32) = true by simp [hkz])
          obtain ⟨kn, hkn⟩ : ∃ kn, kn = keysN d rest := ⟨_, rfl⟩
          rw [← hkn] at hkz ⊢
          clear hkn
          go_wp2_with (at_builtin; refine wpList_append_own _ rfl _ _ 39 rfl wa.heap.size 5 i0 (.int .u8 0) 1 1 Tryz.underlying39 hi hi0 hi1 hi2 rfl (by decide) _ _ _ rfl (HOw4.out.alloc _) ⟨w4.heap.size, 0, none⟩ 1 1 [.int .u8 122] rfl rfl ?c1 ?c2 ?c3 ?c4 ?c5 ?_)
          case c1 => intro j u hj; match j, hj with | 0, hj => simp at hj; subst hj; simp [Addr.add]
          case c2 => intro u hu; simp at hu; subst hu; rfl
          case c3 => unfold maxLen; omega
          case c4 => omega
          case c5 => simp; omega
          intro v' w5 hown5 hgrow _
          have hnn : d.size + 1 = (bytesZ d true).length := by simp [bytesZ]
          rw [byteRow_z, hnn] at hown5
          have HWB := Lib.hid ((HW4.out.alloc hz4 _).grown hgrow (by simp; omega) (fun q hq => (HOw4.out.lt q hq).1))
          have hwz := HWB.out.size
          obtain ⟨g, cap', rfl, hg, hgs, hcap', hH⟩ := holds_bytes hown5 (by simp [bytesZ])
          have HH := Lib.hid hH
          rw [← hnn] at hcap' ⊢
          clear hown5 hgrow hH
          have HSO := Lib.hid (sortZ_any HO.out g cap' (d.size + 1) (z := true) hnn w5 HH.out)
          have HCO := Lib.hid (fun W hW => compactZ_any HO.out g cap' (d.size + 1) (z := true) hnn hcap' W hW)
          have HTG := Lib.hid (show targetsN d rest = strOf (lettersZ d true) by rw [targetsN, if_pos HS.out, HDZ.out])
          obtain ⟨nn, hnn2⟩ : ∃ nn, nn = (d.size + 1) := ⟨_, rfl⟩
          rw [← hnn2] at HSO HCO hcap' ⊢
          clear hnn hnn2
          go_wp2_with fail
          refine HSO.out.mono ?_
          rintro x w6 ⟨rfl, hs6, hg6⟩
          have HS6 := Lib.hid hs6
          have HW6 := Lib.hid (HWB.out.grown hg6 hwz (fun q hq => by injection hq with hq; omega))
          have hz6 := HW6.out.size
          clear hs6 hg6
          go_wp2_with fail
          refine (HCO.out _ HS6.out).mono ?_
          rintro x w7 ⟨rfl, hc7, hg7⟩
          have hcv := bytes_string (cap := cap') (lettersZ d true) hc7
          have HW7 := Lib.hid (HW6.out.grown hg7 (by omega) (fun q hq => by injection hq with hq; omega))
          obtain ⟨st, hst⟩ : ∃ st, st = strOf (lettersZ d true) := ⟨_, rfl⟩
          rw [← hst] at hcv HTG
          obtain ⟨ln, hln⟩ : ∃ ln, ln = (lettersZ d true).length := ⟨_, rfl⟩
          rw [← hln] at hcv ⊢
          clear hc7 hg7 hst hln
          go_wp2
          go_ret2
          exact ⟨retTg HTG.out.symm rfl, HA.out.trans (HW7.out.mono (by omega))⟩
        · have HDZ := Lib.hid (show decide (keysN d rest < 32) = false by simp [hkz])
          have hd1 : 0 < d.size := by
            rcases Nat.eq_zero_or_pos d.size with h0 | h0
            · exfalso
              apply hkz
              rw [keysN, if_pos HS.out, h0]
              simp [sumTo]
            · exact h0
          obtain ⟨kn, hkn⟩ : ∃ kn, kn = keysN d rest := ⟨_, rfl⟩
          rw [← hkn] at hkz ⊢
          clear hkn
          have hown5 := HOw4.out
          have hnn : d.size = (bytesZ d false).length := by simp [bytesZ]
          rw [byteRow_eq, hnn] at hown5
          have HWB := HW4
          have hwz := HWB.out.size
          obtain ⟨g, cap', hvv, hg, hgs, hcap', hH⟩ := holds_bytes hown5 (by intro h; have h2 := congrArg List.length h; rw [← hnn, List.length_nil] at h2; omega)
          have HH := Lib.hid hH
          rw [← hnn] at hcap' hvv
          subst hvv
          clear hown5 hH
          have HSO := Lib.hid (sortZ_any HO.out g cap' d.size (z := false) hnn w4 HH.out)
          have HCO := Lib.hid (fun W hW => compactZ_any HO.out g cap' d.size (z := false) hnn hcap' W hW)
          have HTG := Lib.hid (show targetsN d rest = strOf (lettersZ d false) by rw [targetsN, if_pos HS.out, HDZ.out])
          obtain ⟨nn, hnn2⟩ : ∃ nn, nn = d.size := ⟨_, rfl⟩
          rw [← hnn2] at HSO HCO hcap' ⊢
          clear hnn hnn2
          go_wp2_with fail
          refine HSO.out.mono ?_
          rintro x w6 ⟨rfl, hs6, hg6⟩
          have HS6 := Lib.hid hs6
          have HW6 := Lib.hid (HWB.out.grown hg6 hwz (fun q hq => by injection hq with hq; omega))
          have hz6 := HW6.out.size
          clear hs6 hg6
          go_wp2_with fail
          refine (HCO.out _ HS6.out).mono ?_
          rintro x w7 ⟨rfl, hc7, hg7⟩
          have hcv := bytes_string (cap := cap') (lettersZ d false) hc7
          have HW7 := Lib.hid (HW6.out.grown hg7 (by omega) (fun q hq => by injection hq with hq; omega))
          obtain ⟨st, hst⟩ : ∃ st, st = strOf (lettersZ d false) := ⟨_, rfl⟩
          rw [← hst] at hcv HTG
          obtain ⟨ln, hln⟩ : ∃ ln, ln = (lettersZ d false).length := ⟨_, rfl⟩
          rw [← hln] at hcv ⊢
          clear hc7 hg7 hst hln
          go_wp2
          go_ret2
          exact ⟨retTg HTG.out.symm rfl, HA.out.trans (HW7.out.mono (by omega))⟩
end Go.Proofs.YtjpcpiffffobcaaGreatDoor

namespace Go.Proofs.YtjpcpiffffobcaaGreatDoor
open Go.RowKit Go.Shelf Go.Lib Go.Sort

theorem strOf_letters (d : Array CaseD) (i : Nat) : (strOf (lettersTo d i)).size ≤ i := by
  rw [strOf_size]
  exact lettersTo_length d i

end Go.Proofs.YtjpcpiffffobcaaGreatDoor

namespace Go.Proofs.YtjpcpiffffobcaaGreatDoor
open Go.RowKit Go.Shelf Go.Lib Go.Sort

def seenL (d : Array CaseD) : Nat → List Int
  | 0 => []
  | n + 1 => if (seenL d n).contains (goB d n) = true then seenL d n else seenL d n ++ [goB d n]
theorem seenL_mem (d : Array CaseD) (x : Int) : ∀ n, x ∈ seenL d n ↔ ∃ i, i < n ∧ goB d i = x
  | 0 => by simp [seenL]
  | n + 1 => by
    have ih := seenL_mem d x n
    rw [seenL]
    split
    · next hc =>
      rw [ih]
      constructor
      · rintro ⟨i, h1, h2⟩; exact ⟨i, by omega, h2⟩
      · rintro ⟨i, h1, h2⟩
        by_cases e : i = n
        · subst e
          rw [← ih, ← h2]
          simpa using hc
        · exact ⟨i, by omega, h2⟩
    · rw [List.mem_append, ih, List.mem_singleton]
      constructor
      · rintro (⟨i, h1, h2⟩ | h)
        · exact ⟨i, by omega, h2⟩
        · exact ⟨n, by omega, h.symm⟩
      · rintro ⟨i, h1, h2⟩
        by_cases e : i = n
        · subst e; exact .inr h2.symm
        · exact .inl ⟨i, by omega, h2⟩
theorem seenL_nodup (d : Array CaseD) : ∀ n, (seenL d n).Nodup
  | 0 => List.nodup_nil
  | n + 1 => by
    rw [seenL]
    split
    · exact seenL_nodup d n
    · next hc =>
      rw [List.nodup_append]
      refine ⟨seenL_nodup d n, by simp, ?_⟩
      intro a ha b hb e
      rw [List.mem_singleton] at hb
      subst e hb
      exact hc (by simpa using ha)
theorem seenL_length (d : Array CaseD) : ∀ n, (seenL d n).length ≤ n
  | 0 => Nat.le_refl _
  | n + 1 => by
    have := seenL_length d n
    rw [seenL]
    split
    · omega
    · simp; omega
theorem all_mem {d : Array CaseD} {rest : Int} (h : SwOK d rest) (x : Int) : x ∈ lettersZ d (decide (keysN d rest < 32)) ↔ ∃ i, i < 32 ∧ goB d i = x := by
  have hl : x ∈ lettersZ d (decide (keysN d rest < 32)) ↔ (∃ j, j < d.size ∧ tgJ d j = x) ∨ (keysN d rest < 32 ∧ x = 122) := by
    unfold lettersZ
    rw [List.mem_append, lettersTo_mem]
    constructor
    · rintro (⟨q, h1, h2, j, h3, h4⟩ | h1)
      · exact .inl ⟨j, h3, h4⟩
      · split at h1
        · next hk => exact .inr ⟨of_decide_eq_true hk, by simpa using h1⟩
        · cases h1
    · rintro (⟨j, h1, h2⟩ | ⟨h1, h2⟩)
      · have hl := caseB_letter (h.case j h1)
        have e : tg0 d[j]!.target = x := h2
        rw [e] at hl
        exact .inl ⟨(x - 97).toNat, by omega, by omega, j, h1, h2⟩
      · exact .inr (by rw [if_pos (decide_eq_true h1)]; simp [h2])
  rw [hl]
  constructor
  · rintro (⟨j, h1, h2⟩ | ⟨h1, h2⟩)
    · have hc := h.case j h1
      have h3 := caseB_le hc
      have h4 := caseB_low hc
      have h5 := caseB_high hc
      obtain ⟨i, hi⟩ : ∃ i : Nat, d[j]!.low = i := ⟨d[j]!.low.toNat, by omega⟩
      refine ⟨i, by omega, ?_⟩
      rw [← h2]
      refine goB_hit (atN_hit h1 (by simp only [hasB, decide_eq_true_eq]; omega) fun q hq => ?_)
      have := h.before hq h1
      simp only [hasB, decide_eq_false_iff_not]
      omega
    · rw [← cov_count h] at h1
      obtain ⟨i, h3, h4⟩ := cntK_ex (covB d) 32 h1
      refine ⟨i, h3, ?_⟩
      rw [h2]
      refine goB_miss ?_
      simp only [covB, decide_eq_false_iff_not] at h4
      rcases atN_cases d (i : Int) with ⟨k, _, h6, _, _⟩ | ⟨h5, _⟩
      · omega
      · exact h5
  · rintro ⟨i, h1, h2⟩
    rcases atN_cases d (i : Int) with ⟨k, h3, h4, _, _⟩ | ⟨h3, _⟩
    · exact .inl ⟨k, h3, by rw [← h2, goB_hit h4]⟩
    · refine .inr ⟨?_, by rw [← h2, goB_miss h3]⟩
      rw [← cov_count h]
      exact cntK_lt h1 (by simp [covB, h3])
theorem lettersZ_nodup (d : Array CaseD) (z : Bool) : (lettersZ d z).Nodup := (lettersZ_asc d z).imp fun h => by omega
theorem seen_len {d : Array CaseD} {rest : Int} (h : SwOK d rest) : (seenL d 32).length = (lettersZ d (decide (keysN d rest < 32))).length :=
  ((List.perm_ext_iff_of_nodup (seenL_nodup d 32) (lettersZ_nodup d _)).2 fun x => by rw [seenL_mem, all_mem h]).length_eq
end Go.Proofs.YtjpcpiffffobcaaGreatDoor

namespace Go.Proofs.YtjpcpiffffobcaaGreatDoor
open Go.RowKit Go.Shelf Go.Lib Go.Sort

def hasS (s c : ByteArray) : Nat → Bool
  | 0 => false
  | n + 1 => hasS s c n || ((s.extract n (n + 1)).toList == c.toList)
theorem hasS_mono {s c : ByteArray} {n : Nat} (h : hasS s c n = true) : ∀ m, n ≤ m → hasS s c m = true
  | 0, hm => by
    obtain rfl : n = 0 := by omega
    exact h
  | m + 1, hm => by
    by_cases e : n = m + 1
    · subst e; exact h
    · rw [hasS, hasS_mono h m (by omega)]; rfl
theorem extract_one (s : ByteArray) (n : Nat) (h : n < s.size) (b : UInt8) : ((s.extract n (n + 1)).toList == (⟨#[b]⟩ : ByteArray).toList) = true ↔ s.data.toList[n]? = some b := by
  have hl : n < s.data.toList.length := by simpa using h
  rw [beq_iff_eq, ByteArray.toList_eq, ByteArray.toList_eq, ByteArray.data_extract, Array.toList_extract, List.extract_eq_take_drop, show n + 1 - n = 1 by omega, List.drop_eq_getElem_cons hl, List.getElem?_eq_getElem hl]
  simp
theorem hasS_iff (s : ByteArray) (b : UInt8) : ∀ n, n ≤ s.size → (hasS s ⟨#[b]⟩ n = true ↔ ∃ i, i < n ∧ s.data.toList[i]? = some b)
  | 0, _ => by simp [hasS]
  | n + 1, hn => by
    rw [hasS, Bool.or_eq_true, hasS_iff s b n (by omega), extract_one s n (by omega) b]
    constructor
    · rintro (⟨i, h1, h2⟩ | h)
      · exact ⟨i, by omega, h2⟩
      · exact ⟨n, by omega, h⟩
    · rintro ⟨i, h1, h2⟩
      by_cases e : i = n
      · subst e; exact .inr h2
      · exact .inl ⟨i, by omega, h2⟩
theorem strOf_data (ns : List Int) : (strOf ns).data.toList = ns.map fun n => UInt8.ofNat n.toNat := by
  have h : ∀ (l : List Int) (r : ByteArray), (l.foldl (fun r n => r.push (UInt8.ofNat n.toNat)) r).data.toList = r.data.toList ++ l.map fun n => UInt8.ofNat n.toNat := by
    intro l
    induction l with
    | nil => intro r; simp
    | cons a l ih => intro r; rw [List.foldl_cons, ih]; simp
  have := h ns ByteArray.empty
  simpa [strOf] using this
theorem ofNat_inj {x y : Int} (h0 : 0 ≤ x) (h1 : x ≤ 255) (h2 : 0 ≤ y) (h3 : y ≤ 255) (h : UInt8.ofNat x.toNat = UInt8.ofNat y.toNat) : x = y := by
  have e := congrArg UInt8.toNat h
  rw [UInt8.toNat_ofNat', UInt8.toNat_ofNat'] at e
  have a1 : x.toNat % 2 ^ 8 = x.toNat := Nat.mod_eq_of_lt (by omega)
  have a2 : y.toNat % 2 ^ 8 = y.toNat := Nat.mod_eq_of_lt (by omega)
  omega
theorem hasS_strOf (ns : List Int) (x : Int) (hn : ∀ y ∈ ns, 0 ≤ y ∧ y ≤ 255) (h0 : 0 ≤ x) (h1 : x ≤ 255) : hasS (strOf ns) ⟨#[UInt8.ofNat x.toNat]⟩ (strOf ns).size = ns.contains x := by
  rw [Bool.eq_iff_iff, hasS_iff _ _ _ (Nat.le_refl _), strOf_data, List.contains_iff_mem]
  constructor
  · rintro ⟨i, _, h2⟩
    rw [List.getElem?_map] at h2
    cases hg : ns[i]? with
    | none => rw [hg] at h2; cases h2
    | some y =>
      rw [hg] at h2
      have hm : y ∈ ns := List.mem_of_getElem? hg
      have := hn y hm
      have e := ofNat_inj this.1 this.2 h0 h1 (by simpa using h2)
      rw [← e]; exact hm
  · intro hm
    obtain ⟨i, hi, e⟩ := List.mem_iff_getElem.1 hm
    exact ⟨i, by rw [strOf_size]; exact hi, by rw [List.getElem?_map, List.getElem?_eq_getElem hi, e]; rfl⟩

end Go.Proofs.YtjpcpiffffobcaaGreatDoor
