
/- MergeCases of the program. -/
import Derived.Test.YtkiaafpggjojiaaDoorKsMergeN
import Derived.Test.YtkiaafpggjojiaaDoorKsValC
import Derived.Deep.RegionHeld3
namespace Go.Proofs.YtkiaafpggjojiaaDoor
open Go.RowKit Go.Shelf Go.Lib Go.Sort

theorem joinC_fn : JoinFn jC 76 := ⟨enters_of Tryd.func76 (by kernel_rfl) rfl, fun l x w hl hx => by
  obtain ⟨_, _, h1, h2, h3, h4, _⟩ := hl
  have := (okB_iff x).1 hx
  exact joinCases_any l x w h1 h2 h3 (by omega) this.2.2.2.1 this.2.2.2.2.1⟩
noncomputable def mergedN (d : Array CaseD) (rest : Int) : List CaseD := if swB d rest = true then (mergeA jC d.toList).toList else []
noncomputable def restN (d : Array CaseD) (rest : Int) : Int := if swB d rest = true then rest else 0
theorem mergedN_on {d : Array CaseD} {rest : Int} (h : swB d rest = true) : mergedN d rest = (mergeA jC d.toList).toList := by rw [mergedN, if_pos h]
theorem mergedN_off {d : Array CaseD} {rest : Int} (h : swB d rest = false) : mergedN d rest = [] := by rw [mergedN, if_neg (by rw [h]; exact Bool.false_ne_true)]
theorem restN_on {d : Array CaseD} {rest : Int} (h : swB d rest = true) : restN d rest = rest := by rw [restN, if_pos h]
theorem restN_off {d : Array CaseD} {rest : Int} (h : swB d rest = false) : restN d rest = 0 := by rw [restN, if_neg (by rw [h]; exact Bool.false_ne_true)]
theorem mergedN_len (d : Array CaseD) (rest : Int) : (mergedN d rest).length ≤ 8 := by
  cases h : swB d rest with
  | false => rw [mergedN_off h]; exact Nat.zero_le _
  | true =>
    rw [mergedN_on h]
    have hok := (swB_iff _ _).1 h
    have := (mergeA_bnd (j := jC) (l := d.toList) (fun c hc => by
      obtain ⟨i, hi, rfl⟩ := List.getElem_of_mem hc
      have := okB_of_case (hok.case i (by simpa using hi))
      rw [getElem!_pos d i (by simpa using hi)] at this
      simpa using this)).1
    have := hok.size
    simp at *
    omega
theorem retM {v : Value} {r r' : Int} {a b : Bool} (h : a = b) (hr : r = r') : Ending.returned (.tuple #[.agg #[v, .int .i64 r], .bool a]) = .returned (.tuple #[.agg #[v, .int .i64 r'], .bool b]) := by rw [h, hr]
/-- Two results: a switch whose cases are the call's own, and whether the argument is valid. -/
def Merge2 (base : Nat) (d : Array CaseD) (rest : Int) (w : World) (x : Ending) (w' : World) : Prop :=
  ∃ v, x = .returned (.tuple #[.agg #[v, .int .i64 (restN d rest)], .bool (swB d rest)]) ∧ OwnsC base v (mergedN d rest) w' ∧ RowKit.Below base w w'

/-- The cases of a valid switch, put together. -/
theorem mergeCs_any (b off cap : Nat) (d : Array CaseD) (rest : Int) (w : World) (hR : RowC w b off d) (hok : SwOK d rest) :
    Calls Tryd.prog 70 #[.func (.func 104) #[] #[.pointer (some ⟨w.heap.size, 0, none⟩)], jF 76] (w.alloc (.cells #[.slice (some ⟨b, off, none⟩) d.size cap] 32))
      fun x w' => ∃ v, x = .returned v ∧ OwnsC w.heap.size v (mergeA jC d.toList).toList w' ∧ RowKit.Below w.heap.size w w' := by
  obtain ⟨w2, hw2⟩ : ∃ w2, w2 = w.alloc (.cells #[.slice (some ⟨b, off, none⟩) d.size cap] 32) := ⟨_, rfl⟩
  have e0 : w2.cell? ⟨w.heap.size, 0, none⟩ = some (.slice (some ⟨b, off, none⟩) d.size cap) := by rw [hw2]; simp
  have hz : w2.heap.size = w.heap.size + 1 := by rw [hw2]; simp
  have hb : RowKit.Below w.heap.size w w2 := by rw [hw2]; exact (Below.refl _ _).alloc (Nat.le_refl _) _
  rw [← hw2]
  have hb3 : RowKit.Below w2.heap.size w2 (mW 76 w2) := ((Below.refl _ _).alloc (Nat.le_refl _) _).alloc (by simp) _
  have bX := Boxed.new (w2.alloc (.cells #[jF 76] 88)) 32 (.slice none 0 0)
  rw [show (w2.alloc (.cells #[jF 76] 88)).heap.size = w2.heap.size + 1 by simp] at bX
  have hnp : ∀ j, ¬ Pts (mW 76 w2) (w2.heap.size + 1) j := fun j ⟨u, hu, hj⟩ => by rw [bX.cell] at hu; cases hu; cases hj
  have hold := hR.old
  refine (merge_any jC 76 joinC_fn 104 _ d.toList w2 (enters_of Tryd.func104 (by kernel_rfl) rfl)
    (valuesC_stops 4 (w2.heap.size + 1) b off cap w.heap.size d _ (by decide) hok.size (fun j hj => okB_of_case (hok.case j hj)) ((hb3.cell (p := ⟨w.heap.size, 0, none⟩) (by omega : w.heap.size < w2.heap.size)).trans e0)
      ((hR.below hb).below hb3) (by simp) (by simp; omega) (by omega) hnp)).mono ?_
  rintro x w' ⟨v, rfl, ho, hb4⟩
  exact ⟨v, rfl, owns_base ho (by omega), hb.trans (hb4.mono (by omega))⟩

theorem two_cells {w : World} {g : Nat} {u0 u1 : Value} (h0 : w.cell? ⟨g, 0, none⟩ = some u0) (h1 : w.cell? ⟨g, 1, none⟩ = some u1) (v0 v1 : Value) :
    ((w.setCell ⟨g, 0, none⟩ v0).setCell ⟨g, 1, none⟩ v1).cell? ⟨g, 0, none⟩ = some v0 ∧ ((w.setCell ⟨g, 0, none⟩ v0).setCell ⟨g, 1, none⟩ v1).cell? ⟨g, 1, none⟩ = some v1 := by
  have o1 : ∀ (W : World) (x y : Nat) (v : Value), x ≠ y → (W.setCell ⟨g, x, none⟩ v).cell? ⟨g, y, none⟩ = W.cell? ⟨g, y, none⟩ := fun W x y v h => World.cell?_setCell_other _ _ _ _ (fun e => h (by cases e; rfl))
  have e0 := World.cell?_setCell_same w ⟨g, 0, none⟩ v0 h0
  have e1 := World.cell?_setCell_same (w.setCell ⟨g, 0, none⟩ v0) ⟨g, 1, none⟩ v1 ((o1 _ 0 1 _ (by decide)).trans h1)
  exact ⟨(o1 _ 1 0 _ (by decide)).trans e0, e1⟩

set_option maxRecDepth 100000 in
set_option maxHeartbeats 2000000 in
theorem implMerge_any (b off cap : Nat) (d : Array CaseD) (rest : Int) (w : World) (hR : RowC w b off d) (hE : ErrAt w) (hcap : d.size ≤ cap) (hmax : cap ≤ maxLen) :
    Calls Tryd.prog 36 #[.agg #[.slice (some ⟨b, off, none⟩) d.size cap, .int .i64 rest]] w (Merge2 w.heap.size d rest w) := by
  have hv := fun W (hW : RowKit.Below w.heap.size w W) => switchValid_any b off cap d rest W (hR.below hW) (hE.below hW) hcap hmax
  have HMC := Lib.hid (fun (hok : SwOK d rest) W (hW : RowKit.Below w.heap.size w W) => mergeCs_any b off cap d rest W (hR.below hW) hok)
  obtain ⟨wa, hwa⟩ : ∃ wa, wa = (w.alloc (.cells #[.slice (some ⟨b, off, none⟩) d.size cap, .int .i64 rest] 34)).alloc (.cells #[.slice none 0 0, .int .i64 0] 34) := ⟨_, rfl⟩
  have c0 : wa.cell? ⟨w.heap.size, 0, none⟩ = some (.slice (some ⟨b, off, none⟩) d.size cap) := by rw [hwa]; simp [go_sem]
  have c1 : wa.cell? ⟨w.heap.size, 1, none⟩ = some (.int .i64 rest) := by rw [hwa]; simp [go_sem]
  have r0 : wa.cell? ⟨w.heap.size + 1, 0, none⟩ = some (.slice none 0 0) := by rw [hwa]; simp [go_sem]
  have r1 : wa.cell? ⟨w.heap.size + 1, 1, none⟩ = some (.int .i64 0) := by rw [hwa]; simp [go_sem]
  have hx : wa.heap[w.heap.size + 1]? = some (.cells #[.slice none 0 0, .int .i64 0] 34 (0, 0)) := by
    have := World.alloc_heap_new (w.alloc (.cells #[.slice (some ⟨b, off, none⟩) d.size cap, .int .i64 rest] 34)) (.cells #[.slice none 0 0, .int .i64 0] 34)
    rw [World.size_alloc] at this
    rw [hwa]
    exact this
  have fr : ∀ o, wa.frozen? ⟨w.heap.size + 1, o, none⟩ = false := fun o => by simp [World.frozen?, hx]
  clear hx
  have hz : wa.heap.size = w.heap.size + 2 := by rw [hwa]; simp
  have hba : RowKit.Below w.heap.size w wa := by rw [hwa]; exact ((Below.refl _ _).alloc (Nat.le_refl _) _).alloc (by simp) _
  have HA := Lib.hid hba
  have C0 := Lib.hid c0
  have C1 := Lib.hid c1
  have RR := Lib.hid (And.intro r0 r1)
  have FR := Lib.hid fr
  have HWA := Lib.hid hwa
  have hz0 : w.heap.size < wa.heap.size := by omega
  have hzr : w.heap.size + 1 < wa.heap.size := by omega
  clear hba c0 c1 r0 r1 fr hwa hR hE
  cases hs : swB d rest
  all_goals
    simp only [hs] at hv
    have HV := Lib.hid hv
    have HS := Lib.hid hs
    clear hv hs
    go_enter Tryd.func36, Tryd.ntmps36
    go_wp2_with fail
    rw [← HWA.out]
    refine (HV.out _ HA.out).mono ?_
    rintro x w1 ⟨rfl, hb⟩
    have HB := Lib.hid hb
    have hz1 := hb.size
    have a0 := (hb.cell (p := ⟨w.heap.size, 0, none⟩) hz0).trans C0.out
    have a1 := (hb.cell (p := ⟨w.heap.size, 1, none⟩) hz0).trans C1.out
    have r0 := (hb.cell (p := ⟨w.heap.size + 1, 0, none⟩) hzr).trans RR.out.1
    have r1 := (hb.cell (p := ⟨w.heap.size + 1, 1, none⟩) hzr).trans RR.out.2
    have f0 := (hb.frozen (p := ⟨w.heap.size + 1, 0, none⟩) hzr).trans (FR.out 0)
    have f1 := (hb.frozen (p := ⟨w.heap.size + 1, 1, none⟩) hzr).trans (FR.out 1)
    have HWB := Lib.hid (HA.out.trans (HB.out.mono (by omega)))
    clear hb
    go_wp2_with fail
  · obtain ⟨q0, q1⟩ := two_cells r0 r1 (.slice none 0 0) (.int .i64 0)
    refine bodyPost_ret (v := .tuple #[.agg #[.slice none 0 0, .int .i64 0], .bool false]) (by simp [results, Tryd.results36, go_sem, q0, q1]) rfl ⟨_, retM HS.out.symm (restN_off HS.out).symm, ?_, (HWB.out.setCell (p := ⟨w.heap.size + 1, 0, none⟩) (Nat.le_succ _) _).setCell (p := ⟨w.heap.size + 1, 1, none⟩) (Nat.le_succ _) _⟩
    rw [mergedN_off HS.out]
    exact World.ownsRow_nil _ _ _ _
  · have hok := (swB_iff _ _).1 HS.out
    have hz2 : w.heap.size < w1.heap.size := by omega
    have hz3 : w.heap.size + 1 < w1.heap.size := by omega
    have HSEGV := Lib.hid (fun W => valuesC_any (some ⟨b, off, none⟩) d.size cap W)
    have HMD := Lib.hid (show Calls Tryd.prog 70 #[.func (.func 104) #[] #[.pointer (some ⟨w1.heap.size, 0, none⟩)], .func (.func 76) #[] #[]] (w1.alloc (.cells #[.slice (some ⟨b, off, none⟩) d.size cap] 32)).drew
      (fun x w' => ∃ v, x = .returned v ∧ OwnsC w1.heap.size v (mergeA jC d.toList).toList w' ∧ RowKit.Below w1.heap.size w1.drew w') from HMC.out hok w1.drew HWB.out.drew)
    clear hok
    go_region_held3 (fun w' => w'.cell? ⟨w.heap.size, 0, none⟩ = some (.slice (some ⟨b, off, none⟩) d.size cap) ∧ w'.cell? ⟨w.heap.size, 1, none⟩ = some (.int .i64 rest)) (first | exact ⟨a0, a1⟩ | exact Y4.out | go_keep) (first
      | (go_at_call 75; (with_reducible refine (HSEGV.out _).mono ?_); rintro _ w4 ⟨rfl, rfl⟩)
      | (go_at_call 70; (with_reducible refine HMD.out.mono ?_); rintro _ w4 ⟨v, rfl, ho, b4⟩; obtain ⟨av, cv, rfl⟩ := row_slice ho; have hb4 : RowKit.Below w1.heap.size w1 w4 := ⟨b4.os, b4.tape, b4.output, b4.size, b4.block⟩; have HO4 := Lib.hid ho; have HB4 := Lib.hid (HWB.out.trans (hb4.mono HWB.out.size)); have Y4 := Lib.hid (And.intro ((hb4.cell (p := ⟨w.heap.size, 0, none⟩) hz2).trans a0) ((hb4.cell (p := ⟨w.heap.size, 1, none⟩) hz2).trans a1)); have q0 := (hb4.cell (p := ⟨w.heap.size + 1, 0, none⟩) hz3).trans r0; have q1 := (hb4.cell (p := ⟨w.heap.size + 1, 1, none⟩) hz3).trans r1; have g0 := (hb4.frozen (p := ⟨w.heap.size + 1, 0, none⟩) hz3).trans f0; have g1 := (hb4.frozen (p := ⟨w.heap.size + 1, 1, none⟩) hz3).trans f1; clear ho b4 hb4))
    all_goals go_wp2_with fail
    have hlen : (mergeA jC d.toList).toList.length = (mergeA jC d.toList).size := by simp
    obtain ⟨p0, p1⟩ := two_cells q0 q1 (.slice av (mergeA jC d.toList).size cv) (.int .i64 rest)
    have ho := HO4.out
    rw [hlen] at ho
    have hne : (Value.slice av (mergeA jC d.toList).size cv).ownBlock = none ∨ (Value.slice av (mergeA jC d.toList).size cv).ownBlock ≠ some (w.heap.size + 1) := by
      cases hb : (Value.slice av (mergeA jC d.toList).size cv).ownBlock with
      | none => exact .inl rfl
      | some k =>
        refine .inr fun e => ?_
        cases e
        have := (World.ownsRow.lt ho _ hb).1
        omega
    have O1 := Lib.hid (World.ownsRow.kept (World.ownsRow.kept ho (grown_set w4 (w.heap.size + 1) 0 (.slice av (mergeA jC d.toList).size cv)) hne) (grown_set _ (w.heap.size + 1) 1 (.int .i64 rest)) hne)
    clear ho hne
    refine bodyPost_ret (v := .tuple #[.agg #[.slice av (mergeA jC d.toList).size cv, .int .i64 rest], .bool true]) (by simp [results, Tryd.results36, go_sem, p0, p1]) rfl ⟨_, retM HS.out.symm (restN_on HS.out).symm, ?_, (HB4.out.setCell (p := ⟨w.heap.size + 1, 0, none⟩) (Nat.le_succ _) _).setCell (p := ⟨w.heap.size + 1, 1, none⟩) (Nat.le_succ _) _⟩
    rw [mergedN_on HS.out]
    unfold OwnsC
    rw [hlen]
    exact owns_base O1.out (by omega)
end Go.Proofs.YtkiaafpggjojiaaDoor
