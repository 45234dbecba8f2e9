
/- Reading a tree, the program's leaves: what a target is, numbers, marks. -/
import Derived.Test.YtndnbeijmhcepaaDoorKsTreeA
import Derived.Test.YtndnbeijmhcepaaDoorKsLeaf
import Derived.Test.YtndnbeijmhcepaaDoorKsLay6
import Derived.LoopTactic
namespace Go.Proofs.YtndnbeijmhcepaaDoor
open Go.RowKit

def tgV (n : Int) : Bool := tgtB n || decide (n = 122)
theorem tgV_tgU (c : UInt8) : tgV (c.toNat : Int) = tgU c := by
  have : ∀ i : Fin 256, tgV (i.1 : Int) = tgU (UInt8.ofNat i.1) := by decide +kernel
  have h := this ⟨c.toNat, c.toNat_lt⟩
  simp only [UInt8.ofNat_toNat] at h
  exact h
set_option maxHeartbeats 400000 in
theorem tvalid_any (n : Int) (w : World) : Calls Tryd.prog 96 #[.int .u8 n] w fun e w' => e = .returned (.bool (tgV n)) ∧ w = w' := by
  by_cases h2 : (n == 122) = true
  · cases h : tgtB n
    all_goals
      go_enter Tryd.func96, Tryd.ntmps96
      go_wp2_with (go_at_call 111; refine (ofCase_any _ _).mono ?_; rintro e w' ⟨rfl, rfl⟩)
      go_ret
      exact ⟨retB (by simp [tgV, h]; try simpa using h2), rfl⟩
  · simp only [Bool.not_eq_true] at h2
    cases h : tgtB n
    all_goals
      go_enter Tryd.func96, Tryd.ntmps96
      go_wp2_with (go_at_call 111; refine (ofCase_any _ _).mono ?_; rintro e w' ⟨rfl, rfl⟩)
      go_ret
      exact ⟨retB (by simp [tgV, h]; try simpa using h2), rfl⟩

/-! digits ahead -/
def ls (s : ByteArray) : List UInt8 := s.data.toList
theorem ls_len (s : ByteArray) : (ls s).length = s.size := Array.length_toList
theorem ls_ext {a b : ByteArray} (h : ls a = ls b) : a = b := ByteArray.ext (Array.toList_inj.1 h)
theorem ls_get (s : ByteArray) (k : Nat) (h : k < s.size) : (ls s)[k]'(by rw [ls_len]; exact h) = s[k] := by
  simp only [ls, Array.getElem_toList]
  rfl
theorem ls_extract (s : ByteArray) (a b : Nat) : ls (s.extract a b) = ((ls s).take b).drop a := by
  simp [ls, ByteArray.data_extract, Array.toList_extract, List.extract_eq_drop_take']
def dgE (s : ByteArray) : Nat := ((ls s).takeWhile dgU).length
theorem dgE_le (s : ByteArray) : dgE s ≤ s.size := by
  have := (List.takeWhile_prefix dgU (l := ls s)).length_le
  rw [ls_len] at this
  exact this
theorem tw_len (l : List UInt8) : (∀ k (h : k < (l.takeWhile dgU).length), ∃ h' : k < l.length, dgU l[k] = true) ∧ (∀ h : (l.takeWhile dgU).length < l.length, dgU l[(l.takeWhile dgU).length] = false) ∧ l.takeWhile dgU = l.take (l.takeWhile dgU).length ∧ l.dropWhile dgU = l.drop (l.takeWhile dgU).length := by
  induction l with
  | nil => simp
  | cons a l ih =>
    by_cases ha : dgU a = true
    · obtain ⟨i1, i2, i3, i4⟩ := ih
      simp only [List.takeWhile_cons, List.dropWhile_cons, if_pos ha, List.length_cons, List.take_succ_cons, List.drop_succ_cons]
      refine ⟨fun k h => ?_, fun h => ?_, by rw [← i3], i4⟩
      · cases k with
        | zero => exact ⟨by omega, by simpa using ha⟩
        | succ k => obtain ⟨h', hd⟩ := i1 k (by omega); exact ⟨by omega, by simpa using hd⟩
      · simpa using i2 (by omega)
    · simp [ha]
theorem dgE_lt (s : ByteArray) (k : Nat) (h : k < dgE s) : ∃ h' : k < s.size, dgU s[k] = true := by
  obtain ⟨h', hd⟩ := (tw_len (ls s)).1 k h
  have h2 : k < s.size := by rw [← ls_len]; exact h'
  exact ⟨h2, by rw [← ls_get s k h2]; exact hd⟩
theorem dgE_end (s : ByteArray) (h : dgE s < s.size) : dgU s[dgE s] = false := by
  rw [← ls_get s _ h]
  exact (tw_len (ls s)).2.1 (by rw [ls_len]; exact h)
theorem dgE_front (s : ByteArray) : ls (s.extract 0 (dgE s)) = (ls s).takeWhile dgU := by
  rw [ls_extract, List.drop_zero]
  exact ((tw_len (ls s)).2.2.1).symm
theorem dgE_back (s : ByteArray) : ls (s.extract (dgE s) s.size) = (ls s).dropWhile dgU := by
  rw [ls_extract, List.take_of_length_le (by rw [ls_len]; exact Nat.le_refl _)]
  exact ((tw_len (ls s)).2.2.2).symm
theorem dgU_iff (c : UInt8) : dgU c = true ↔ (48 : Int) ≤ (c.toNat : Int) ∧ (c.toNat : Int) ≤ 57 := by
  simp [dgU]; omega

/-- What Atoi's errors lie in. -/
def NumErrs (w : World) : Prop := ∃ ev er : Value, w.cell? ⟨6, 0, none⟩ = some ev ∧ (ev = .nilIface ∨ ∃ te pe, ev = .iface te pe) ∧ w.cell? ⟨7, 0, none⟩ = some er ∧ (er = .nilIface ∨ ∃ te pe, er = .iface te pe)
theorem NumErrs.kept {w w' : World} {row : Option Nat} (h : NumErrs w) (hg : w.grownBy w' row) (h1 : row ≠ some 6) (h2 : row ≠ some 7) : NumErrs w' := by
  obtain ⟨ev, er, a, b, c, d⟩ := h
  exact ⟨ev, er, hg.cell a (Ne.symm h1), b, hg.cell c (Ne.symm h2), d⟩

theorem ret3n {a b : Int} {s t : ByteArray} {v : Value} (h1 : a = b) (h2 : s = t) : Ending.returned (.tuple #[.int .i64 a, .string s, v]) = .returned (.tuple #[.int .i64 b, .string t, v]) := by rw [h1, h2]
/-- What readNumber hands back. -/
def NumOut (s : ByteArray) (x : Ending) : Prop :=
  (∃ v, Lib.atoiAll ((ls s).takeWhile dgU) = .ok v ∧ x = .returned (.tuple #[.int .i64 v, .string (s.extract (dgE s) s.size), .nilIface])) ∨
  ((∀ v, Lib.atoiAll ((ls s).takeWhile dgU) ≠ .ok v) ∧ ∃ z T p, x = .returned (.tuple #[.int .i64 z, .string (s.extract (dgE s) s.size), .iface T p]))
/-- What Atoi hands back of the digits ahead. -/
theorem atoi_digits (s : ByteArray) (hs : s.size ≤ 100000) (w : World) (hE : NumErrs w) :
    Calls Tryd.prog 113 #[.string (s.extract 0 (dgE s))] w fun x w' => ((∃ v, Lib.atoiAll ((ls s).takeWhile dgU) = .ok v ∧ x = .returned (.tuple #[.int .i64 v, .nilIface])) ∨
      ((∀ v, Lib.atoiAll ((ls s).takeWhile dgU) ≠ .ok v) ∧ ∃ z T p, x = .returned (.tuple #[.int .i64 z, .iface T p]))) ∧ Below w.heap.size w w' := by
  obtain ⟨ev, er, a, b, c, d⟩ := hE
  have hsz : (s.extract 0 (dgE s)).size ≤ 100000 := by rw [ByteArray.size_extract]; have := dgE_le s; omega
  have hl : (s.extract 0 (dgE s)).data.toList = (ls s).takeWhile dgU := dgE_front s
  cases h : Lib.atoiAll ((ls s).takeWhile dgU)
  · rename_i v
    refine (Any.strconv_Atoi_ok Tryd.lays172 _ (by omega) v (by rw [hl]; exact h) w).mono ?_
    rintro x w' ⟨rfl, hw⟩
    refine ⟨.inl ⟨v, rfl, rfl⟩, ?_⟩
    rcases hw with rfl | ⟨t, rfl⟩
    · exact Below.refl _ _
    · exact Lib.bytesWorld_below _ _ _
  · refine (Any.strconv_Atoi_syntax Tryd.lays172 _ (by omega) (by rw [hl]; exact h) ev w a b).mono ?_
    rintro x w' ⟨N, rfl, _, _, hb⟩
    exact ⟨.inr ⟨(fun v e => by cases e), _, _, _, rfl⟩, hb⟩
  · refine (Any.strconv_Atoi_range Tryd.lays172 _ (by omega) (by rw [hl]; exact h) er w c d).mono ?_
    rintro x w' ⟨N, rfl, _, _, hb⟩
    exact ⟨.inr ⟨(fun v e => by cases e), _, _, _, rfl⟩, hb⟩

set_option maxRecDepth 100000 in
set_option maxHeartbeats 1000000 in
theorem readNumber_any (s : ByteArray) (hs : s.size ≤ 100000) (w : World) (hE : NumErrs w) :
    Calls Tryd.prog 98 #[.string s] w fun x w' => NumOut s x ∧ Below w.heap.size w w' := by
  have HA := Lib.hid (atoi_digits s hs w hE)
  have hle := dgE_le s
  have hsi : (s.size : Int) ≤ 100000 := by omega
  have HLT := Lib.hid (fun k h => dgE_lt s k h)
  have HEND := Lib.hid (fun h => dgE_end s h)
  have HNO := Lib.hid (show ∀ x, NumOut s x ↔ ((∃ v, Lib.atoiAll ((ls s).takeWhile dgU) = .ok v ∧ x = .returned (.tuple #[.int .i64 v, .string (s.extract (dgE s) s.size), .nilIface])) ∨ ((∀ v, Lib.atoiAll ((ls s).takeWhile dgU) ≠ .ok v) ∧ ∃ z T p, x = .returned (.tuple #[.int .i64 z, .string (s.extract (dgE s) s.size), .iface T p]))) from fun _ => Iff.rfl)
  obtain ⟨e, he⟩ : ∃ e, e = dgE s := ⟨_, rfl⟩
  rw [← he] at HA hle HLT HEND HNO
  clear he
  go_enter Tryd.func98, Tryd.ntmps98
  go_wp2_with fail
  go_loopw [5] (fun i wr => ∃ k : Nat, i = .int .i64 k ∧ k ≤ e ∧ wr = w) (fun i _ => e - (intOf i).toNat)
  case atStart => exact ⟨0, rfl, Nat.zero_le _, rfl⟩
  case round =>
    obtain ⟨k, rfl, hk, rfl⟩ := hrel
    by_cases hlt : k < e
    · obtain ⟨h1, hd⟩ := HLT.out k hlt
      have hd2 := (dgU_iff _).1 hd
      obtain ⟨d1, d2⟩ := hd2
      clear hd
      go_wp2_with fail
      go_roundw
      case rel => exact ⟨k + 1, by go_num, by omega, trivial⟩
      case measure => simp [intOf]; omega
    · have hke : k = e := by omega
      subst hke
      have hki : ((k : Nat) : Int) ≤ (s.size : Int) := by omega
      by_cases hsz : k < s.size
      · have hd := HEND.out hsz
        have hd2 : ¬ ((48 : Int) ≤ (s[k].toNat : Int) ∧ (s[k].toNat : Int) ≤ 57) := by rw [← dgU_iff, hd]; exact Bool.false_ne_true
        clear hd
        by_cases d1 : (48 : Int) ≤ (s[k].toNat : Int)
        · have d2 := fun h => hd2 ⟨d1, h⟩
          clear hd2
          go_wp2_with fail
          refine HA.out.mono ?_
          rintro x w1 ⟨hx, hb⟩
          have HB := Lib.hid hb
          have HX := Lib.hid hx
          clear hx hb
          rcases HX.out with ⟨v, hv, rfl⟩ | ⟨hv, z, T, p, rfl⟩
          all_goals
            have HV := Lib.hid hv
            clear hv HX
            go_wp2
            go_quiet (fail)
            go_wp2
          · go_ret3
            exact ⟨(HNO.out _).2 (.inl ⟨v, HV.out, rfl⟩), below_drewN HB.out _⟩
          · go_ret3
            exact ⟨(HNO.out _).2 (.inr ⟨HV.out, z, T, p, rfl⟩), below_drewN HB.out _⟩
        · clear hd2
          go_wp2_with fail
          refine HA.out.mono ?_
          rintro x w1 ⟨hx, hb⟩
          have HB := Lib.hid hb
          have HX := Lib.hid hx
          clear hx hb
          rcases HX.out with ⟨v, hv, rfl⟩ | ⟨hv, z, T, p, rfl⟩
          all_goals
            have HV := Lib.hid hv
            clear hv HX
            go_wp2
            go_quiet (fail)
            go_wp2
          · go_ret3
            exact ⟨(HNO.out _).2 (.inl ⟨v, HV.out, rfl⟩), below_drewN HB.out _⟩
          · go_ret3
            exact ⟨(HNO.out _).2 (.inr ⟨HV.out, z, T, p, rfl⟩), below_drewN HB.out _⟩
      · go_wp2_with fail
        refine HA.out.mono ?_
        rintro x w1 ⟨hx, hb⟩
        have HB := Lib.hid hb
        have HX := Lib.hid hx
        clear hx hb
        rcases HX.out with ⟨v, hv, rfl⟩ | ⟨hv, z, T, p, rfl⟩
        all_goals
          have HV := Lib.hid hv
          clear hv HX
          go_wp2
          go_quiet (fail)
          go_wp2
        · go_ret3
          exact ⟨(HNO.out _).2 (.inl ⟨v, HV.out, rfl⟩), below_drewN HB.out _⟩
        · go_ret3
          exact ⟨(HNO.out _).2 (.inr ⟨HV.out, z, T, p, rfl⟩), below_drewN HB.out _⟩
end Go.Proofs.YtndnbeijmhcepaaDoor
