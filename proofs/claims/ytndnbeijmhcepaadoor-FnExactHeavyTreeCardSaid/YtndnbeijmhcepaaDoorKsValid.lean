
/- impl.SwitchValid reports whether a switch is valid; so does the model. -/
import Derived.Test.YtndnbeijmhcepaaDoorKsApart
namespace Go.Proofs.YtndnbeijmhcepaaDoor
open Go.RowKit Go.Shelf Go.Lib Go.Sort

/-- A valid switch. -/
structure SwOK (d : Array CaseD) (rest : Int) : Prop where
  size : d.size ≤ 8
  rest : wgtB rest = true
  case : ∀ j, j < d.size → caseB d[j]! = true
  next : ∀ i, i + 1 < d.size → d[i]!.high < d[i + 1]!.low
noncomputable def swB (d : Array CaseD) (rest : Int) : Bool := @decide (SwOK d rest) (Classical.propDecidable _)
theorem swB_iff (d : Array CaseD) (rest : Int) : swB d rest = true ↔ SwOK d rest := @decide_eq_true_iff _ (Classical.propDecidable _)
theorem swB_not (d : Array CaseD) (rest : Int) : swB d rest = false ↔ ¬ SwOK d rest := @decide_eq_false_iff_not _ (Classical.propDecidable _)

theorem caseB_le {c : CaseD} (h : caseB c = true) : c.low ≤ c.high := by simp [caseB] at h; exact h.1.2
theorem caseB_low {c : CaseD} (h : caseB c = true) : 0 ≤ c.low ∧ c.low ≤ 31 := by simp [caseB, keyB] at h; exact h.1.1.1.2
theorem caseB_high {c : CaseD} (h : caseB c = true) : 0 ≤ c.high ∧ c.high ≤ 31 := by simp [caseB, keyB] at h; exact h.1.1.2
theorem caseB_weight {c : CaseD} (h : caseB c = true) : 0 ≤ c.weight ∧ c.weight ≤ 99 := by simp [caseB, wgtB] at h; exact h.2

theorem SwOK.lt {d : Array CaseD} {rest : Int} (h : SwOK d rest) : ∀ (n i : Nat), i + n + 1 < d.size → d[i]!.high < d[i + n + 1]!.low
  | 0, i, hi => h.next i hi
  | n + 1, i, hi => by
    have h1 := h.lt n i (by omega)
    have h2 := caseB_le (h.case (i + n + 1) (by omega))
    have h3 := h.next (i + n + 1) (by omega)
    show _ < d[i + n + 1 + 1]!.low
    omega
theorem SwOK.before {d : Array CaseD} {rest : Int} (h : SwOK d rest) {i j : Nat} (hij : i < j) (hj : j < d.size) : d[i]!.high < d[j]!.low := by
  have := h.lt (j - i - 1) i (by omega)
  rwa [show i + (j - i - 1) + 1 = j by omega] at this
theorem swOK_of {d : Array CaseD} {rest : Int} (h1 : d.size ≤ 8) (h2 : wgtB rest = true) (h3 : ∀ j, j < d.size → caseB d[j]! = true) : SwOK d rest ↔ AscL d ∧ ApartL d := by
  constructor
  · intro h
    refine ⟨fun i hi => ?_, fun i j hij hj => ?_⟩
    · have := h.next i hi
      have := caseB_le (h3 i (by omega))
      omega
    · have := h.before hij hj
      simp [meetB]
      omega
  · rintro ⟨ha, hp⟩
    refine ⟨h1, h2, h3, fun i hi => ?_⟩
    have e := hp i (i + 1) (Nat.lt_succ_self _) hi
    have := ha i hi
    have := caseB_le (h3 (i + 1) hi)
    simp [meetB] at e
    omega

theorem swB_eq {d : Array CaseD} {rest : Int} (h1 : d.size ≤ 8) (h2 : wgtB rest = true) (h3 : ∀ j, j < d.size → caseB d[j]! = true) : swB d rest = (ascB d && apB d) := by
  rw [Bool.eq_iff_iff, swB_iff, swOK_of h1 h2 h3, Bool.and_eq_true, ascB_iff, apB_iff]

set_option maxRecDepth 100000 in
set_option maxHeartbeats 400000 in
theorem switchValid_off (b off cap : Nat) (d : Array CaseD) (rest : Int) (w : World) (h : 8 < d.size ∨ d.size ≤ 8 ∧ wgtB rest = false) :
    Calls Tryd.prog 68 #[.agg #[.slice (some ⟨b, off, none⟩) d.size cap, .int .i64 rest]] w fun e w' => e = .returned (.bool false) ∧ RowKit.Below w.heap.size w w' := by
  rcases h with h | ⟨h, hr⟩
  · have h' : (8 : Int) < d.size := by omega
    go_enter Tryd.func68, Tryd.ntmps68
    go_wp2
    go_ret
    exact ⟨rfl, (Below.refl _ _).alloc (Nat.le_refl _) _⟩
  · have h' : (d.size : Int) ≤ 8 := by omega
    go_enter Tryd.func68, Tryd.ntmps68
    go_wp2_with (go_at_call 85; refine (isWeight_any _ _).mono ?_; rintro e w' ⟨rfl, rfl⟩)
    go_ret
    exact ⟨rfl, (Below.refl _ _).alloc (Nat.le_refl _) _⟩

set_option maxRecDepth 100000 in
set_option maxHeartbeats 1000000 in
theorem switchValid_on (b off cap : Nat) (d : Array CaseD) (rest : Int) (w : World) (hR : RowC w b off d) (hE : ErrAt w) (hcap : d.size ≤ cap) (hmax : cap ≤ maxLen) (h : d.size ≤ 8) (hr : wgtB rest = true) :
    Calls Tryd.prog 68 #[.agg #[.slice (some ⟨b, off, none⟩) d.size cap, .int .i64 rest]] w fun e w' => e = .returned (.bool (swB d rest)) ∧ RowKit.Below w.heap.size w w' := by
  have h' : (d.size : Int) ≤ 8 := by omega
  have hd : decide ((8 : Int) < (d.size : Int)) = false := by simp; omega
  have HR := Lib.hid hR
  have HE := Lib.hid hE
  clear hR hE
  go_enter Tryd.func68, Tryd.ntmps68
  go_wp2_with (go_at_call 85; refine (isWeight_any _ _).mono ?_; rintro e w' ⟨rfl, rfl⟩)
  obtain ⟨wa, hwa⟩ : ∃ wa, wa = w.alloc (.cells #[.slice (some ⟨b, off, none⟩) d.size cap, .int .i64 rest] 35) := ⟨_, rfl⟩
  have c0 : wa.cell? ⟨w.heap.size, 0, none⟩ = some (.slice (some ⟨b, off, none⟩) d.size cap) := by rw [hwa]; simp
  have hz : w.heap.size < wa.heap.size := by rw [hwa]; simp
  have hba : RowKit.Below w.heap.size w wa := by rw [hwa]; exact (Below.refl _ _).alloc (Nat.le_refl _) _
  rw [← hwa]
  have HB := Lib.hid hba
  have C0 := Lib.hid c0
  clear hwa hba c0
  go_loopw [18] (fun i wr => ∃ k : Nat, i = .int .i64 k ∧ k ≤ d.size ∧ Hid (RowKit.Below wa.heap.size wa wr) ∧ wa.heap.size ≤ wr.heap.size ∧ Hid (∀ j, j < k → caseB d[j]! = true)) (fun i _ => d.size - (intOf i).toNat)
  case atStart => exact ⟨0, rfl, Nat.zero_le _, Below.refl _ _, Nat.le_refl _, fun j hj => absurd hj (Nat.not_lt_zero _)⟩
  case round =>
    obtain ⟨k, rfl, hk, HW, hw2, HC⟩ := hrel
    have HWW := Lib.hid (HB.out.trans (HW.out.mono (by omega)))
    by_cases hlt : k < d.size
    · have hx := HR.out.below HWW.out
      have x0 := hx.low k hlt
      have x1 := hx.high k hlt
      have x2 := hx.target k hlt
      have x3 := hx.weight k hlt
      clear hx
      obtain ⟨x, hxe⟩ : ∃ x, x = d[k]! := ⟨_, rfl⟩
      rw [← hxe] at x0 x1 x2 x3
      have XE := Lib.hid hxe
      clear hxe
      have hcall := Lib.hid (fun W hE => valid_any x W hE)
      have HE2 := Lib.hid (HE.out.below HWW.out)
      cases hq : caseB x with
      | true =>
        have HQ := Lib.hid hq
        rw [hq] at hcall
        clear hq
        go_wp2_with (go_at_call 86; refine (hcall.out _ (HE2.out.alloc _)).mono ?_; rintro x w' ⟨rfl, hb⟩)
        go_roundw
        case rel =>
          have hb2 : RowKit.Below wr.heap.size wr w' := ((Below.refl _ _).alloc (Nat.le_refl _) _).trans (hb.mono (by simp))
          refine ⟨k + 1, by go_num, by omega, HW.out.trans (hb2.mono hw2), Nat.le_trans hw2 hb2.size, (show Hid _ from fun j hj => ?_)⟩
          by_cases e : j = k
          · subst e
            rw [← XE.out]
            exact HQ.out
          · exact HC.out j (by omega)
        case measure => simp [intOf]; omega
      | false =>
        have HQ := Lib.hid hq
        rw [hq] at hcall
        clear hq
        go_wp2_with (go_at_call 86; refine (hcall.out _ (HE2.out.alloc _)).mono ?_; rintro x w' ⟨rfl, hb⟩)
        go_ret
        have hb2 : RowKit.Below wr.heap.size wr w' := ((Below.refl _ _).alloc (Nat.le_refl _) _).trans (hb.mono (by simp))
        refine ⟨retB ?_, HWW.out.trans (hb2.mono (by omega))⟩
        symm
        rw [swB_not]
        intro h
        have := h.case k hlt
        rw [← XE.out, HQ.out] at this
        cases this
    · have x0 := (HW.out.cell (p := ⟨w.heap.size, 0, none⟩) hz).trans C0.out
      have HR2 := Lib.hid (HR.out.below HWW.out)
      have hall : Hid (∀ j, j < d.size → caseB d[j]! = true) := (show Hid _ from fun j hj => HC.out j (by omega))
      have ha := fun W hR => ascending_any b off cap d W hR h
      have hp := fun W hR => apart_any b off cap d W hR h hcap hmax
      have hsw := swB_eq h hr hall.out
      cases qa : ascB d <;> cases qp : apB d
      all_goals
        simp only [qa] at ha
        simp only [qp] at hp
        rw [qa, qp] at hsw
        have SW := Lib.hid hsw
        have HA := Lib.hid ha
        have HP := Lib.hid hp
        clear qa qp ha hp hsw
        go_wp2_with fail
        refine (HA.out _ HR2.out).mono ?_
        rintro e w1 ⟨rfl, hb1⟩
        have y0 := (hb1.cell (p := ⟨w.heap.size, 0, none⟩) (by omega : w.heap.size < wr.heap.size)).trans x0
        go_wp2_with (go_at_call 88; refine (HP.out _ (HR2.out.below hb1)).mono ?_; rintro e w2 ⟨rfl, hb2⟩)
        go_ret
        exact ⟨retB SW.out.symm, HWW.out.trans ((by first | exact hb1.mono (by omega) | exact (hb1.mono (by omega)).trans (hb2.mono (by have := hb1.size; omega))))⟩

theorem switchValid_any (b off cap : Nat) (d : Array CaseD) (rest : Int) (w : World) (hR : RowC w b off d) (hE : ErrAt w) (hcap : d.size ≤ cap) (hmax : cap ≤ maxLen) :
    Calls Tryd.prog 68 #[.agg #[.slice (some ⟨b, off, none⟩) d.size cap, .int .i64 rest]] w fun e w' => e = .returned (.bool (swB d rest)) ∧ RowKit.Below w.heap.size w w' := by
  by_cases h : 8 < d.size
  · refine (switchValid_off b off cap d rest w (.inl h)).mono fun _ _ ⟨he, hb⟩ => ⟨he.trans (retB ?_), hb⟩
    exact ((swB_not _ _).2 fun hs => by have := hs.size; omega).symm
  · cases hr : wgtB rest with
    | false =>
      refine (switchValid_off b off cap d rest w (.inr ⟨by omega, hr⟩)).mono fun _ _ ⟨he, hb⟩ => ⟨he.trans (retB ?_), hb⟩
      exact ((swB_not _ _).2 fun hs => by have := hs.rest; rw [hr] at this; cases this).symm
    | true => exact switchValid_on b off cap d rest w hR hE hcap hmax (by omega) hr
end Go.Proofs.YtndnbeijmhcepaaDoor
