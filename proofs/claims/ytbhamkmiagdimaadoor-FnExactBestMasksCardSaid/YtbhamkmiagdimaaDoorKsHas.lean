
/- Whether a letter is in a text, as the laws look for it. -/
import Derived.Test.YtbhamkmiagdimaaDoorKsAllP
namespace Go.Proofs.YtbhamkmiagdimaaDoor
open Go.RowKit Go.Shelf Go.Lib Go.Sort

def hasS (s c : ByteArray) : Nat → Bool
  | 0 => false
  | n + 1 => hasS s c n || ((s.extract n (n + 1)).toList == c.toList)
theorem hasS_mono {s c : ByteArray} {n : Nat} (h : hasS s c n = true) : ∀ m, n ≤ m → hasS s c m = true
  | 0, hm => by
    obtain rfl : n = 0 := by omega
    exact h
  | m + 1, hm => by
    by_cases e : n = m + 1
    · subst e; exact h
    · rw [hasS, hasS_mono h m (by omega)]; rfl
theorem extract_one (s : ByteArray) (n : Nat) (h : n < s.size) (b : UInt8) : ((s.extract n (n + 1)).toList == (⟨#[b]⟩ : ByteArray).toList) = true ↔ s.data.toList[n]? = some b := by
  have hl : n < s.data.toList.length := by simpa using h
  rw [beq_iff_eq, ByteArray.toList_eq, ByteArray.toList_eq, ByteArray.data_extract, Array.toList_extract, List.extract_eq_take_drop, show n + 1 - n = 1 by omega, List.drop_eq_getElem_cons hl, List.getElem?_eq_getElem hl]
  simp
theorem hasS_iff (s : ByteArray) (b : UInt8) : ∀ n, n ≤ s.size → (hasS s ⟨#[b]⟩ n = true ↔ ∃ i, i < n ∧ s.data.toList[i]? = some b)
  | 0, _ => by simp [hasS]
  | n + 1, hn => by
    rw [hasS, Bool.or_eq_true, hasS_iff s b n (by omega), extract_one s n (by omega) b]
    constructor
    · rintro (⟨i, h1, h2⟩ | h)
      · exact ⟨i, by omega, h2⟩
      · exact ⟨n, by omega, h⟩
    · rintro ⟨i, h1, h2⟩
      by_cases e : i = n
      · subst e; exact .inr h2
      · exact .inl ⟨i, by omega, h2⟩
theorem strOf_data (ns : List Int) : (strOf ns).data.toList = ns.map fun n => UInt8.ofNat n.toNat := by
  have h : ∀ (l : List Int) (r : ByteArray), (l.foldl (fun r n => r.push (UInt8.ofNat n.toNat)) r).data.toList = r.data.toList ++ l.map fun n => UInt8.ofNat n.toNat := by
    intro l
    induction l with
    | nil => intro r; simp
    | cons a l ih => intro r; rw [List.foldl_cons, ih]; simp
  have := h ns ByteArray.empty
  simpa [strOf] using this
theorem ofNat_inj {x y : Int} (h0 : 0 ≤ x) (h1 : x ≤ 255) (h2 : 0 ≤ y) (h3 : y ≤ 255) (h : UInt8.ofNat x.toNat = UInt8.ofNat y.toNat) : x = y := by
  have e := congrArg UInt8.toNat h
  rw [UInt8.toNat_ofNat', UInt8.toNat_ofNat'] at e
  have a1 : x.toNat % 2 ^ 8 = x.toNat := Nat.mod_eq_of_lt (by omega)
  have a2 : y.toNat % 2 ^ 8 = y.toNat := Nat.mod_eq_of_lt (by omega)
  omega
theorem hasS_strOf (ns : List Int) (x : Int) (hn : ∀ y ∈ ns, 0 ≤ y ∧ y ≤ 255) (h0 : 0 ≤ x) (h1 : x ≤ 255) : hasS (strOf ns) ⟨#[UInt8.ofNat x.toNat]⟩ (strOf ns).size = ns.contains x := by
  rw [Bool.eq_iff_iff, hasS_iff _ _ _ (Nat.le_refl _), strOf_data, List.contains_iff_mem]
  constructor
  · rintro ⟨i, _, h2⟩
    rw [List.getElem?_map] at h2
    cases hg : ns[i]? with
    | none => rw [hg] at h2; cases h2
    | some y =>
      rw [hg] at h2
      have hm : y ∈ ns := List.mem_of_getElem? hg
      have := hn y hm
      have e := ofNat_inj this.1 this.2 h0 h1 (by simpa using h2)
      rw [← e]; exact hm
  · intro hm
    obtain ⟨i, hi, e⟩ := List.mem_iff_getElem.1 hm
    exact ⟨i, by rw [strOf_size]; exact hi, by rw [List.getElem?_map, List.getElem?_eq_getElem hi, e]; rfl⟩

end Go.Proofs.YtbhamkmiagdimaaDoor
