
/- apart: no key is in two cases. -/
import Derived.Test.YtndnbeijmhcepaaDoorKsAsc
import Derived.Test.YtndnbeijmhcepaaDoorKsQuiet
namespace Go.Proofs.YtndnbeijmhcepaaDoor
open Go.RowKit Go.Shelf Go.Lib Go.Sort

/-- n cases lie one behind the other from a place on: the j-th is e j. -/
structure RowF (w : World) (b off n : Nat) (e : Nat → CaseD) : Prop where
  old : b < w.heap.size
  low : ∀ j, j < n → w.cell? ⟨b, off + j * 4, none⟩ = some (.int .i64 (e j).low)
  high : ∀ j, j < n → w.cell? ⟨b, off + j * 4 + 1, none⟩ = some (.int .i64 (e j).high)
  target : ∀ j, j < n → w.cell? ⟨b, off + j * 4 + 2, none⟩ = some (.string (e j).target)
  weight : ∀ j, j < n → w.cell? ⟨b, off + j * 4 + 3, none⟩ = some (.int .i64 (e j).weight)
theorem RowF.below {w w' : World} {b off n : Nat} {d : Nat → CaseD} (h : RowF w b off n d) (hb : RowKit.Below w.heap.size w w') : RowF w' b off n d :=
  ⟨Nat.lt_of_lt_of_le h.old hb.size, fun j hj => (hb.cell (p := ⟨b, _, none⟩) h.old).trans (h.low j hj), fun j hj => (hb.cell (p := ⟨b, _, none⟩) h.old).trans (h.high j hj),
    fun j hj => (hb.cell (p := ⟨b, _, none⟩) h.old).trans (h.target j hj), fun j hj => (hb.cell (p := ⟨b, _, none⟩) h.old).trans (h.weight j hj)⟩
theorem RowC.from {w : World} {b off : Nat} {d : Array CaseD} (h : RowC w b off d) (k : Nat) : RowF w b (off + k * 4) (d.size - k) (fun j => d[k + j]!) :=
  ⟨h.old, fun j hj => by rw [← h.low (k + j) (by omega)]; congr 2; omega, fun j hj => by rw [← h.high (k + j) (by omega)]; congr 2; omega,
    fun j hj => by rw [← h.target (k + j) (by omega)]; congr 2; omega, fun j hj => by rw [← h.weight (k + j) (by omega)]; congr 2; omega⟩

/-- What IndexFunc hands back: -1 where no case meets c, an index where one does. -/
def IdxM (c : CaseD) (n : Nat) (e : Nat → CaseD) (w : World) (x : Ending) (w' : World) : Prop :=
  ∃ r : Int, x = .returned (.int .i64 r) ∧ (0 ≤ r ↔ ∃ j, j < n ∧ meetB c (e j) = true) ∧ RowKit.Below w.heap.size w w'

set_option maxRecDepth 100000 in
set_option maxHeartbeats 400000 in
theorem indexMeets (c : CaseD) (b off n cap : Nat) (e : Nat → CaseD) (w : World) (hR : RowF w b off n e) (hn : n ≤ 8) :
    Calls Tryd.prog 116 #[.slice (some ⟨b, off, none⟩) n cap, .func (.func 106) #[aggC c] #[]] w (IdxM c n e w) := by
  have HR := Lib.hid hR
  have hn' : (n : Int) ≤ 8 := by omega
  clear hR
  go_enter Tryd.func116, Tryd.ntmps116
  go_wp2
  go_loopw [5, 8] (fun _ i wr => ∃ k : Nat, i = .int .i64 k ∧ k ≤ n ∧ Hid (RowKit.Below w.heap.size w wr) ∧ w.heap.size ≤ wr.heap.size ∧ Hid (∀ j, j < k → meetB c (e j) = false)) (fun _ i _ => n - (intOf i).toNat)
  case atStart => exact ⟨0, rfl, Nat.zero_le _, Below.refl _ _, Nat.le_refl _, fun j hj => absurd hj (Nat.not_lt_zero _)⟩
  case round =>
    obtain ⟨k, rfl, hk, HW, hw2, HE⟩ := hrel
    by_cases hlt : k < n
    · have hx := HR.out.below HW.out
      have x0 := hx.low k hlt
      have x1 := hx.high k hlt
      have x2 := hx.target k hlt
      have x3 := hx.weight k hlt
      have hcall := Lib.hid (meets_any c (e k) wr)
      clear hx
      cases hq : meetB c (e k) with
      | true =>
        have HQ := Lib.hid hq
        rw [hq] at hcall
        clear hq
        go_wp2_with (go_at_call 106; refine hcall.out.mono ?_; rintro x w' ⟨rfl, hb⟩)
        go_ret
        exact ⟨k, rfl, ⟨fun _ => ⟨k, hlt, HQ.out⟩, fun _ => by omega⟩, HW.out.trans (hb.mono hw2)⟩
      | false =>
        have HQ := Lib.hid hq
        rw [hq] at hcall
        clear hq
        go_wp2_with (go_at_call 106; refine hcall.out.mono ?_; rintro x w' ⟨rfl, hb⟩)
        go_roundw
        case rel =>
          refine ⟨k + 1, by go_num, by omega, HW.out.trans (hb.mono hw2), Nat.le_trans hw2 hb.size, (show Hid _ from fun j hj => ?_)⟩
          by_cases e : j = k
          · subst e
            exact HQ.out
          · exact HE.out j (by omega)
        case measure => simp [intOf]; omega
    · go_wp2
      go_ret
      refine ⟨-1, rfl, ⟨fun h => by omega, fun ⟨j, hj, hm⟩ => ?_⟩, HW.out⟩
      rw [HE.out j (by omega)] at hm
      cases hm

/-- ContainsFunc with the method value. -/
def anyM (c : CaseD) (n : Nat) (e : Nat → CaseD) : Prop := ∃ j, j < n ∧ meetB c (e j) = true
set_option maxHeartbeats 400000 in
theorem containsMeets (c : CaseD) (b off n cap : Nat) (e : Nat → CaseD) (w : World) (hR : RowF w b off n e) (hn : n ≤ 8) (v : Bool) (hv : v = true ↔ anyM c n e) :
    Calls Tryd.prog 105 #[.slice (some ⟨b, off, none⟩) n cap, .func (.func 106) #[aggC c] #[]] w fun x w' => x = .returned (.bool v) ∧ RowKit.Below w.heap.size w w' := by
  have HC := Lib.hid (indexMeets c b off n cap e w hR hn)
  have HV := Lib.hid hv
  clear hR hv
  go_enter Tryd.func105, Tryd.ntmps105
  go_wp2_with (go_at_call 116; refine HC.out.mono ?_; rintro x w' ⟨r, rfl, hr, hb⟩; have HRR := Lib.hid hr; clear hr)
  go_ret
  refine ⟨retB ?_, hb⟩
  rw [Bool.eq_iff_iff, HV.out, decide_eq_true_iff]
  exact HRR.out

theorem RowF.none (w : World) (b off : Nat) (e : Nat → CaseD) (hb : b < w.heap.size) : RowF w b off 0 e :=
  ⟨hb, fun j hj => absurd hj (Nat.not_lt_zero j), fun j hj => absurd hj (Nat.not_lt_zero j), fun j hj => absurd hj (Nat.not_lt_zero j), fun j hj => absurd hj (Nat.not_lt_zero j)⟩

def ApartL (d : Array CaseD) : Prop := ∀ i j, i < j → j < d.size → meetB d[i]! d[j]! = false
noncomputable def apB (d : Array CaseD) : Bool := @decide (ApartL d) (Classical.propDecidable _)
theorem apB_iff (d : Array CaseD) : apB d = true ↔ ApartL d := @decide_eq_true_iff _ (Classical.propDecidable _)
theorem apB_not (d : Array CaseD) : apB d = false ↔ ¬ ApartL d := @decide_eq_false_iff_not _ (Classical.propDecidable _)

set_option maxRecDepth 100000 in
set_option maxHeartbeats 1000000 in
theorem apart_any (b off cap : Nat) (d : Array CaseD) (w : World) (hR : RowC w b off d) (hsz : d.size ≤ 8) (hcap : d.size ≤ cap) (hmax : cap ≤ maxLen) :
    Calls Tryd.prog 88 #[.slice (some ⟨b, off, none⟩) d.size cap] w fun e w' => e = .returned (.bool (apB d)) ∧ RowKit.Below w.heap.size w w' := by
  have HR := Lib.hid hR
  have b1 : (d.size : Int) ≤ 8 := by omega
  unfold maxLen at hmax
  have hb0 : b < w.heap.size := hR.old
  clear hR
  go_enter Tryd.func88, Tryd.ntmps88
  go_wp2
  go_loopw [7] (fun i wr => ∃ k : Nat, i = .int .i64 k ∧ k ≤ d.size ∧ Hid (RowKit.Below w.heap.size w wr) ∧ w.heap.size ≤ wr.heap.size ∧ Hid (∀ i j, i < k → i < j → j < d.size → meetB d[i]! d[j]! = false)) (fun i _ => d.size - (intOf i).toNat)
  case atStart => exact ⟨0, rfl, Nat.zero_le _, Below.refl _ _, Nat.le_refl _, fun j _ hj => absurd hj (Nat.not_lt_zero _)⟩
  case round =>
    obtain ⟨k, rfl, hk, HW, hw2, HE⟩ := hrel
    by_cases hlt : k < d.size
    · have hx := HR.out.below HW.out
      have x0 := hx.low k hlt
      have x1 := hx.high k hlt
      have x2 := hx.target k hlt
      have x3 := hx.weight k hlt
      clear hx
      obtain ⟨x, hxe⟩ : ∃ x, x = d[k]! := ⟨_, rfl⟩
      rw [← hxe] at x0 x1 x2 x3
      have XE := Lib.hid hxe
      clear hxe
      go_wp2
      have hsub := HR.out.below HW.out
      have hsub2 := Lib.hid (hsub.from (k + 1))
      have hbw : b < wr.heap.size := hsub.old
      clear hsub x0 x1 x2 x3
      obtain ⟨wa, hwa⟩ : ∃ wa, wa = wr.alloc (.cells #[.int .i64 x.low, .int .i64 x.high, .string x.target, .int .i64 x.weight] 47) := ⟨_, rfl⟩
      have c0 : wa.cell? ⟨wr.heap.size, 0, none⟩ = some (.int .i64 x.low) := by rw [hwa]; simp
      have c1 : wa.cell? ⟨wr.heap.size, 1, none⟩ = some (.int .i64 x.high) := by rw [hwa]; simp
      have c2 : wa.cell? ⟨wr.heap.size, 2, none⟩ = some (.string x.target) := by rw [hwa]; simp
      have c3 : wa.cell? ⟨wr.heap.size, 3, none⟩ = some (.int .i64 x.weight) := by rw [hwa]; simp
      have hz : wr.heap.size < wa.heap.size := by rw [hwa]; simp
      have hba : RowKit.Below wr.heap.size wr wa := by rw [hwa]; exact (Below.refl _ _).alloc (Nat.le_refl _) _
      have HB := Lib.hid hba
      rw [← hwa]
      clear hwa hba
      have f0 := fun p : BW wa => p.cell (a := ⟨wr.heap.size, 0, none⟩) hz c0
      have f1 := fun p : BW wa => p.cell (a := ⟨wr.heap.size, 1, none⟩) hz c1
      have f2 := fun p : BW wa => p.cell (a := ⟨wr.heap.size, 2, none⟩) hz c2
      have f3 := fun p : BW wa => p.cell (a := ⟨wr.heap.size, 3, none⟩) hz c3
      clear c0 c1 c2 c3
      have hcl := fun (v : Bool) (hv : v = true ↔ anyM x (d.size - (k + 1)) (fun j => d[k + 1 + j]!)) (p : BW wa) => containsMeets x b (off + (k + 1) * 4) (d.size - (k + 1)) (cap - (k + 1)) (fun j => d[k + 1 + j]!) p.W (hsub2.out.below (HB.out.trans (p.h.mono (by omega)))) (by omega) v hv
      have HCL := Lib.hid hcl
      clear hcl
      have hs1 : IntKind.i64.wrap ((k : Int) + 1) = (k : Int) + 1 := IntWalk.i64_in _ (by omega)
      have hs2 : (0 : Int) ≤ (k : Int) + 1 := by omega
      have hs3 : ((k : Int) + 1).toNat = k + 1 := by omega
      have hBp : ∀ p : BW wa, RowKit.Below w.heap.size w p.W := fun p => HW.out.trans ((HB.out.trans (p.h.mono (by omega))).mono hw2)
      have HBP := Lib.hid hBp
      clear hBp
      by_cases hany : anyM x (d.size - (k + 1)) (fun j => d[k + 1 + j]!)
      · have HA := Lib.hid hany
        have hv := Lib.hid (HCL.out true ⟨fun _ => hany, fun _ => rfl⟩)
        clear hany
        by_cases hkc : k + 1 = cap
        · obtain ⟨j, hj, _⟩ := HA.out
          omega
        · have hk2 : (k : Int) + 1 < cap := by omega
          refine wp_region_bw (by kernel_rfl) (by kernel_rfl) ?_
          repeat (go_big_quiet_step ((go_at_call 105; refine bw_of (hv.out _))))
          refine wpQuiet_nil ?_
          rintro _ ⟨p, rfl⟩
          go_wp2
          go_ret
          refine ⟨retB ?_, HBP.out p⟩
          symm
          rw [apB_not]
          intro h
          obtain ⟨j, hj, hm⟩ := HA.out
          have := h k (k + 1 + j) (by omega) (by omega)
          rw [← XE.out] at this
          rw [this] at hm
          cases hm
      · have HA := Lib.hid hany
        have hv := Lib.hid (HCL.out false (Iff.intro (fun h => nomatch h) (fun h => absurd h hany)))
        clear hany
        have hrel : Hid (∀ i j, i < k + 1 → i < j → j < d.size → meetB d[i]! d[j]! = false) := (show Hid _ from fun i j hi hij hj => by
          by_cases e : i = k
          · subst e
            cases hq : meetB d[i]! d[j]! with
            | false => rfl
            | true => exact absurd ⟨j - (i + 1), by omega, by rw [XE.out]; show meetB d[i]! d[i + 1 + (j - (i + 1))]! = true; rw [show i + 1 + (j - (i + 1)) = j by omega]; exact hq⟩ HA.out
          · exact HE.out i j (by omega) hij hj)
        by_cases hkc : k + 1 = cap
        · have hn0 : d.size - (k + 1) = 0 := by omega
          have hk2 : ¬ (k : Int) + 1 < cap := by omega
          have hv0 := Lib.hid (fun p : BW wa => containsMeets x b off 0 0 (fun j => d[j]!) p.W (RowF.none _ _ _ _ (by have := p.h.size; omega)) (by omega) false (Iff.intro (fun h => nomatch h) (fun ⟨j, hj, _⟩ => absurd hj (Nat.not_lt_zero j))))
          refine wp_region_bw (by kernel_rfl) (by kernel_rfl) ?_
          repeat (go_big_quiet_step ((go_at_call 105; refine bw_of (hv0.out _))))
          refine wpQuiet_nil ?_
          rintro _ ⟨p, rfl⟩
          go_wp2
          go_roundw
          case rel => exact ⟨k + 1, by go_num, by omega, HBP.out p, by have := p.h.size; omega, hrel⟩
          case measure => simp [intOf]; omega
        · have hk2 : (k : Int) + 1 < cap := by omega
          refine wp_region_bw (by kernel_rfl) (by kernel_rfl) ?_
          repeat (go_big_quiet_step ((go_at_call 105; refine bw_of (hv.out _))))
          refine wpQuiet_nil ?_
          rintro _ ⟨p, rfl⟩
          go_wp2
          go_roundw
          case rel => exact ⟨k + 1, by go_num, by omega, HBP.out p, by have := p.h.size; omega, hrel⟩
          case measure => simp [intOf]; omega
    · go_wp2
      go_ret
      refine ⟨retB ?_, HW.out⟩
      symm
      rw [apB_iff]
      exact fun i j hij hj => HE.out i j (by omega) hij hj
end Go.Proofs.YtndnbeijmhcepaaDoor
