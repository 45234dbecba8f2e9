
/- BordersOf of the model. -/
import Derived.Test.YtkiaafpggjojiaaDoorKsBordP
import Derived.Test.YtkiaafpggjojiaaDoorKsModel
import Derived.Test.YtkiaafpggjojiaaDoorKsFlat
import Derived.Test.YtkiaafpggjojiaaDoorKsBoxN
import Derived.Test.YtkiaafpggjojiaaDoorKsQuiet
import Derived.IntWalk
namespace Go.Proofs.YtkiaafpggjojiaaDoor
open Go.RowKit Go.Shelf Go.Lib Go.Sort

noncomputable def bordN (d : Array CaseD) (rest : Int) : List Int := if swB d rest = true then bordTo d 31 else []
theorem bordN_on {d : Array CaseD} {rest : Int} (h : swB d rest = true) : bordN d rest = bordTo d 31 := by rw [bordN, if_pos h]
theorem bordN_off {d : Array CaseD} {rest : Int} (h : swB d rest = false) : bordN d rest = [] := by rw [bordN, if_neg (by rw [h]; exact Bool.false_ne_true)]
theorem ob_none (v : Value) : v.ownBlock = none ∨ v.ownBlock ≠ none := by cases v.ownBlock <;> simp
theorem ret2B {v : Value} {a b : Bool} (h : a = b) : Ending.returned (.tuple #[v, .bool a]) = .returned (.tuple #[v, .bool b]) := by rw [h]
/-- Two results: the borders, and whether the switch is valid. -/
def Bord2 (base : Nat) (d : Array CaseD) (rest : Int) (w : World) (x : Ending) (w' : World) : Prop :=
  ∃ v, x = .returned (.tuple #[v, .bool (swB d rest)]) ∧ OwnsN base v (bordN d rest) w' ∧ RowKit.Below base w w'

set_option maxRecDepth 100000 in
set_option maxHeartbeats 2000000 in
theorem specBord_any (b off cap : Nat) (d : Array CaseD) (rest : Int) (w : World) (hR : RowC w b off d) (hcap : d.size ≤ cap) (hmax : cap ≤ maxLen) :
    Calls Tryd.prog 37 #[.agg #[.slice (some ⟨b, off, none⟩) d.size cap, .int .i64 rest]] w (Bord2 w.heap.size d rest w) := by
  have hv := fun W (hW : RowKit.Below w.heap.size w W) => specValid_any b off cap d rest W (hR.below hW) hcap hmax
  have HR := Lib.hid hR
  obtain ⟨i0, hi, hi0, hi1, hi2⟩ := info_parts infoN
  obtain ⟨wa, hwa⟩ : ∃ wa, wa = (w.alloc (.cells #[.slice (some ⟨b, off, none⟩) d.size cap, .int .i64 rest] 34)).alloc (.cells #[] 3) := ⟨_, rfl⟩
  have c0 : wa.cell? ⟨w.heap.size, 0, none⟩ = some (.slice (some ⟨b, off, none⟩) d.size cap) := by rw [hwa]; simp [go_sem]
  have c1 : wa.cell? ⟨w.heap.size, 1, none⟩ = some (.int .i64 rest) := by rw [hwa]; simp [go_sem]
  have hza : wa.heap.size = w.heap.size + 2 := by rw [hwa]; simp
  have hba : RowKit.Below w.heap.size w wa := by rw [hwa]; exact ((Below.refl _ _).alloc (Nat.le_refl _) _).alloc (by simp) _
  have hown : OwnsN (w.heap.size + 1) (.slice (some ⟨w.heap.size + 1, 0, none⟩) 0 0) [] wa := by
    rw [hwa]
    have := World.ownsRow_made (base := w.heap.size + 1) (e := 3) (size := 1) (w.alloc (.cells #[.slice (some ⟨b, off, none⟩) d.size cap, .int .i64 rest] 34)) #[] 0 (by simp) (by unfold maxLen; omega) rfl
    unfold OwnsN
    simpa using this
  have hz : w.heap.size < wa.heap.size := by omega
  have HA := Lib.hid hba
  have HOW := Lib.hid hown
  have C0 := Lib.hid c0
  have C1 := Lib.hid c1
  have HWA := Lib.hid hwa
  clear hba c0 c1 hwa hR hown
  cases hs : swB d rest
  all_goals
    simp only [hs] at hv
    have HV := Lib.hid hv
    have HS := Lib.hid hs
    clear hv hs
    go_enter Tryd.func37, Tryd.ntmps37
    go_wp2_with fail
    rw [← HWA.out]
    refine (HV.out _ HA.out).mono ?_
    rintro x w1 ⟨rfl, hb⟩
    have HB := Lib.hid hb
    have hz1 := hb.size
    have a0 := (hb.cell (p := ⟨w.heap.size, 0, none⟩) hz).trans C0.out
    have a1 := (hb.cell (p := ⟨w.heap.size, 1, none⟩) hz).trans C1.out
    have O1 := Lib.hid (show OwnsN (w.heap.size + 1) (.slice (some ⟨w.heap.size + 1, 0, none⟩) 0 0) [] w1 from World.ownsRow.kept HOW.out (grown_of_below hb) (by simp [Value.ownBlock]))
    have HWB := Lib.hid (HA.out.trans (HB.out.mono (by omega)))
    clear hb
    go_wp2_with fail
  · go_ret2
    refine ⟨_, ret2B HS.out.symm, ?_, HWB.out⟩
    rw [bordN_off HS.out]
    exact owns_base O1.out (Nat.le_succ _)
  · have HO := Lib.hid ((swB_iff _ _).1 HS.out)
    have A := Lib.hid (And.intro a0 a1)
    clear a0 a1
    have hzl : w.heap.size < w1.heap.size := by omega
    have hz2l : w.heap.size + 1 < w1.heap.size := by omega
    go_loopw [4, 5] (fun v i wr => ∃ k : Nat, i = .int .i64 ((k : Int) + 1) ∧ k ≤ 31 ∧ Hid (OwnsN (w.heap.size + 1) v (bordTo d k) wr) ∧ Hid (RowKit.Below (w.heap.size + 1) w1 wr) ∧ w1.heap.size ≤ wr.heap.size) (fun _ i _ => 32 - (intOf i).toNat)
    case atStart => exact ⟨0, rfl, by omega, O1.out, Below.refl _ _, Nat.le_refl _⟩
    case round =>
      obtain ⟨k, rfl, hk, HOk, HW, hw2⟩ := hrel
      by_cases hlt : k < 31
      · have hk0 : (0 : Int) ≤ (k : Int) := by omega
        have hk31 : (k : Int) + 1 ≤ 31 := by omega
        have HWW := Lib.hid (HWB.out.trans (HW.out.mono (Nat.le_succ _)))
        have f0 := fun p : BW wr => p.cell (a := ⟨w.heap.size, 0, none⟩) (by omega : w.heap.size < wr.heap.size) ((HW.out.cell (p := ⟨w.heap.size, 0, none⟩) (Nat.lt_succ_self _)).trans A.out.1)
        have f1 := fun p : BW wr => p.cell (a := ⟨w.heap.size, 1, none⟩) (by omega : w.heap.size < wr.heap.size) ((HW.out.cell (p := ⟨w.heap.size, 1, none⟩) (Nat.lt_succ_self _)).trans A.out.2)
        have ga := fun p : BW wr => l1Goes_any b off cap d rest ((k : Int) + 1) p.W (HR.out.below (HWW.out.trans (p.h.mono HWW.out.size))) HO.out.size
        have gb := fun p : BW wr => l1Goes_any b off cap d rest (k : Int) p.W (HR.out.below (HWW.out.trans (p.h.mono HWW.out.size))) HO.out.size
        have HDK := Lib.hid (show bordB d ((k : Int) + 1) = !((goesN d ((k : Int) + 1)).toList == (goesN d (k : Int)).toList) by unfold bordB; rw [Int.add_sub_cancel])
        have HBT := Lib.hid (show bordTo d (k + 1) = bordTo d k ++ (if bordB d ((k : Int) + 1) = true then [(k : Int) + 1] else []) from rfl)
        have hlen := bordTo_len d k
        obtain ⟨L, hL⟩ : ∃ L, L = bordTo d k := ⟨_, rfl⟩
        rw [← hL] at HBT HOk hlen
        obtain ⟨s1, hs1⟩ : ∃ s, s = goesN d ((k : Int) + 1) := ⟨_, rfl⟩
        obtain ⟨s2, hs2⟩ : ∃ s, s = goesN d (k : Int) := ⟨_, rfl⟩
        rw [← hs1] at ga HDK
        rw [← hs2] at gb HDK
        have GA := Lib.hid ga
        have GB := Lib.hid gb
        clear ga gb hs1 hs2 hL
        cases hq : (s1.toList == s2.toList)
        all_goals
          have HQ := Lib.hid hq
          rw [HDK.out, HQ.out] at HBT
          go_wp2_with fail
          refine wp_region_bw (by kernel_rfl) (by kernel_rfl) ?_
          repeat (go_big_quiet_step ((first | (go_at_call 77; (with_reducible refine bw_of (GA.out _))) | (go_at_call 77; (with_reducible refine bw_of (GB.out _))))))
          refine wpQuiet_nil ?_
          rintro _ ⟨p, rfl⟩
        · have HOp := Lib.hid (World.ownsRow.kept HOk.out (grown_of_below p.h) (ob_none _))
          have hps := p.h.size
          have HBp := Lib.hid (HW.out.trans (p.h.mono (by omega)))
          go_wp2_with (first
            | (at_builtin; refine wpList_append_at _ rfl (.tmp 23) (.tmp 25) 45 rfl (w.heap.size + 1) 3 i0 (.int .i64 0) 1 8 Tryd.underlying45 hi hi0 hi1 hi2 rfl (by decide) _ _ _ rfl (World.ownsRow.alloc HOp.out _) ⟨p.W.heap.size, 0, none⟩ 1 1 [.int .i64 ((k : Int) + 1)] rfl rfl ?c1 (one_cell1 _) (by unfold maxLen; omega) (by omega) (by simp; omega) (by decide) ?_)
            | fail)
          case c1 => exact cell_at1 rfl
          intro v1 w2 hown1 hgrow1 hat1
          have HB2 := Lib.hid (below_append HBp.out (by omega) hgrow1 HOp.out (Nat.le_refl _))
          have hz2 : p.W.heap.size + 1 ≤ w2.heap.size := by have := hgrow1.size; simpa using this
          have HO2 := Lib.hid hown1
          clear hown1 hgrow1 hat1
          go_wp2_with fail
          go_roundw
          case rel =>
            refine ⟨k + 1, by go_num, by omega, ?_, HB2.out, by omega⟩
            show OwnsN _ _ _ _
            rw [HBT.out]
            unfold OwnsN
            simpa using HO2.out
          case measure => simp [intOf]; omega
        · have HOp := Lib.hid (World.ownsRow.kept HOk.out (grown_of_below p.h) (ob_none _))
          have hps := p.h.size
          have HBp := Lib.hid (HW.out.trans (p.h.mono (by omega)))
          go_wp2_with fail
          go_roundw
          case rel =>
            refine ⟨k + 1, by go_num, by omega, ?_, HBp.out, by omega⟩
            show OwnsN _ _ _ _
            rw [HBT.out]
            simpa [OwnsN] using HOp.out
          case measure => simp [intOf]; omega
      · have hke : k = 31 := by omega
        subst hke
        go_wp2
        go_ret2
        refine ⟨_, ret2B HS.out.symm, ?_, HWB.out.trans (HW.out.mono (Nat.le_succ _))⟩
        rw [bordN_on HS.out]
        exact owns_base HOk.out (Nat.le_succ _)
end Go.Proofs.YtkiaafpggjojiaaDoor
