
/- Reading a tree, the model: numbers, digits, and the reader of a node. -/
import Derived.Test.YtndnbeijmhcepaaDoorKsTreeF
import Derived.Test.YtndnbeijmhcepaaDoorKsTreeC
namespace Go.Proofs.YtndnbeijmhcepaaDoor
open Go.RowKit Go.Lib

theorem numTo_val (z : ByteArray) (i : Nat) (h : i ≤ z.size) : numTo z i = valL ((ls z).take i) := by
  induction i with
  | zero => simp [numTo, valL]
  | succ i ih =>
    have hi : i < z.size := by omega
    have hl : i < (ls z).length := by rw [ls_len]; exact hi
    rw [numTo, ih (by omega), List.take_succ_eq_append_getElem hl, ls_get z i hi, ← byteN_eq hi]
    simp [valL, List.foldl_append]
theorem digit_ls {z : ByteArray} (hd : ∀ c ∈ ls z, dgU c = true) (j : Nat) (h : j < z.size) : 48 ≤ z[j].toNat ∧ z[j].toNat ≤ 57 := by
  have := hd z[j] (by rw [← ls_get z j h]; exact List.getElem_mem _)
  simp [dgU] at this
  omega
set_option maxRecDepth 100000 in
set_option maxHeartbeats 400000 in
theorem num_empty (w : World) : Calls Tryd.prog 79 #[.string ByteArray.empty] w fun x w' => x = .returned (.tuple #[.int .i64 0, .bool false]) ∧ w' = w := by
  go_enter Tryd.func79, Tryd.ntmps79
  go_wp2_with fail
  go_ret2
  exact ⟨rfl, rfl⟩
set_option maxRecDepth 100000 in
set_option maxHeartbeats 400000 in
theorem num_zero (z : ByteArray) (h1 : 1 < z.size) (h3 : z.size ≤ 17) (h0 : z[0].toNat = 48) (w : World) : Calls Tryd.prog 79 #[.string z] w fun x w' => x = .returned (.tuple #[.int .i64 0, .bool false]) ∧ w' = w := by
  have h1i : (1 : Int) < (z.size : Int) := by omega
  have h3i : (z.size : Int) ≤ 17 := by omega
  have h0i : (z[0].toNat : Int) = 48 := by rw [h0]; rfl
  have hne : ¬ (z[0].toNat : Int) = 45 := by rw [h0]; decide
  have hb1 : ((z.size : Int) == 0) = false := beq_eq_false_iff_ne.2 (by omega)
  have hb2 : decide (17 < (z.size : Int)) = false := decide_eq_false (by omega)
  have hse : ¬ z = ByteArray.empty := by intro e; rw [e] at h1; simp at h1
  clear h0
  go_enter Tryd.func79, Tryd.ntmps79
  go_wp2_with fail
  go_ret2
  exact ⟨rfl, rfl⟩
def numV (d : List UInt8) : Int := if plainL d = true then ((valL d : Nat) : Int) else 0
theorem num_digits (z : ByteArray) (hd : ∀ c ∈ ls z, dgU c = true) (h3 : (ls z).length ≤ 3) (w : World) :
    Calls Tryd.prog 79 #[.string z] w fun x w' => x = .returned (.tuple #[.int .i64 (numV (ls z)), .bool (plainL (ls z))]) ∧ w' = w := by
  have hz : z.size ≤ 3 := by rw [← ls_len]; exact h3
  cases hl : ls z with
  | nil =>
    have h0 := toList_nil (ls_nil hl)
    have he : z = ByteArray.empty := ls_ext (by rw [hl]; rfl)
    subst he
    refine (num_empty w).mono ?_
    rintro x w' ⟨rfl, hw⟩
    exact ⟨rfl, hw⟩
  | cons a r =>
    obtain ⟨h0, ha, hr⟩ := ls_cons hl
    have hra : (ls z).length = r.length + 1 := by rw [hl]; rfl
    rw [ls_len] at hra
    by_cases hp : a = 48 ∧ r ≠ []
    · have hr1 : 1 < z.size := by
        have := List.length_pos_iff.2 hp.2
        omega
      refine (num_zero z hr1 (by omega) (by rw [ha, hp.1]; rfl) w).mono ?_
      rintro x w' ⟨rfl, hw⟩
      have hpl : plainL (a :: r) = false := by simp [plainL, hp.1, hp.2]
      rw [numV, hpl]
      exact ⟨rfl, hw⟩
    · have hpl : plainL (a :: r) = true := by
        simp only [plainL, Bool.or_eq_true, Bool.not_eq_true', beq_eq_false_iff_ne, List.isEmpty_iff]
        by_cases h : a = 48
        · exact .inr (Decidable.of_not_not fun h2 => hp ⟨h, h2⟩)
        · exact .inl h
      refine (num_plain z ⟨h0, by omega, fun j h => digit_ls hd j h, fun _ h48 => ?_⟩ w).mono ?_
      · have h4 : a = 48 := by rw [← ha]; exact UInt8.toNat_inj.1 h48
        have h5 : r = [] := Decidable.of_not_not fun h2 => hp ⟨h4, h2⟩
        rw [h5] at hra
        simpa using hra
      · rintro x w' ⟨rfl, hw⟩
        refine ⟨?_, hw⟩
        rw [numV, if_pos hpl, hpl, numTo_val z z.size (Nat.le_refl _), List.take_of_length_le (by rw [ls_len]; exact Nat.le_refl _), hl]

/-! the digits ahead, three at most -/
theorem ds_lt (s : ByteArray) (b k : Nat) (h : k < (dsL (rest s b)).length) : k < 3 ∧ ∃ h' : b + k < s.size, dgU s[b + k] = true := by
  have hk : k < ((rest s b).takeWhile dgU).length ∧ k < 3 := by simp [dsL] at h; omega
  obtain ⟨h1, h2⟩ := (tw_len (rest s b)).1 k hk.1
  have h3 : b + k < s.size := by rw [rest_len] at h1; omega
  refine ⟨hk.2, h3, ?_⟩
  have e : (rest s b)[k] = s[b + k] := by
    rw [← ls_get s (b + k) h3]
    simp [rest]
  rw [← e]
  exact h2
theorem ds_end (s : ByteArray) (b : Nat) (h : b + (dsL (rest s b)).length < s.size) (h3 : (dsL (rest s b)).length < 3) : dgU s[b + (dsL (rest s b)).length] = false := by
  have e : (dsL (rest s b)).length = ((rest s b).takeWhile dgU).length := by simp [dsL] at h3 ⊢; omega
  have h2 := (tw_len (rest s b)).2.1 (by rw [rest_len, ← e]; omega)
  have e2 : (rest s b)[((rest s b).takeWhile dgU).length]'(by rw [rest_len, ← e]; omega) = s[b + (dsL (rest s b)).length] := by
    rw [← ls_get s _ h]
    simp only [rest, List.getElem_drop]
    congr 1
    exact congrArg (b + ·) e.symm
  rw [← e2]
  exact h2
theorem ds_cut (s : ByteArray) (b : Nat) : ls (s.extract b (b + (dsL (rest s b)).length)) = dsL (rest s b) := by
  have h := dsL_prefix (rest s b)
  rw [ls_extract, List.drop_take, show b + (dsL (rest s b)).length - b = (dsL (rest s b)).length by omega]
  exact (List.prefix_iff_eq_take.1 ⟨_, h.symm⟩).symm
end Go.Proofs.YtndnbeijmhcepaaDoor
