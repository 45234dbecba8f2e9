/- The model's l3Reach, and its ReachCosts. -/
import Derived.Test.YthchhgjnelkmhaaDoorKsReachP
import Derived.Test.YthchhgjnelkmhaaDoorKsOrdV
import Derived.Test.YthchhgjnelkmhaaDoorKsCopy
import Derived.Test.YthchhgjnelkmhaaDoorKsBoxN
namespace Go.Proofs.YthchhgjnelkmhaaDoor
open Go.RowKit Go.Shelf Go.Lib Go.Sort

set_option maxRecDepth 100000 in
set_option maxHeartbeats 1000000 in
theorem l3Reach_any (b off cap : Nat) (d : Array CaseD) (rest : Int) (bo co : Nat) (o : Array Int) (w : World) (hR : RowC w b off d) (hok : SwOK d rest) (hO : RowN w bo 0 o) (hord : OrdOK d.size o) :
    Calls Tryd.prog 46 #[.agg #[.slice (some ⟨b, off, none⟩) d.size cap, .int .i64 rest], .slice (some ⟨bo, 0, none⟩) o.size co] w fun x w' =>
      ∃ g, x = .returned (.tuple #[.slice (some ⟨g, 0, none⟩) o.size o.size, .int .i64 (rsum d o o.size)]) ∧ w.heap.size ≤ g ∧ BoxN w' g (reachA d o) ∧ RowKit.Below w.heap.size w w' := by
  have HR := Lib.hid hR
  have HO := Lib.hid hok
  have HN := Lib.hid hO
  have HORD := Lib.hid hord
  have h8n : o.size ≤ 8 := by rw [hord.1]; exact hok.size
  have h8 : (o.size : Int) ≤ 8 := by omega
  have h8d : (d.size : Int) ≤ 8 := by have := hok.size; omega
  have hmk := run_makeInt o.size (by omega)
  clear hR hok hO hord
  go_enter Tryd.func46, Tryd.ntmps46
  go_wp2
  have hH0 := BoxN.made o.size (w.alloc (.cells #[.slice (some ⟨b, off, none⟩) d.size cap, .int .i64 rest] 30)) (w.heap.size + 1) (by simp)
  obtain ⟨wa, hwa⟩ : ∃ wa, wa = (w.alloc (.cells #[.slice (some ⟨b, off, none⟩) d.size cap, .int .i64 rest] 30)).alloc (.cells (madeCells #[.int .i64 0] o.size) 3) := ⟨_, rfl⟩
  rw [← hwa] at hH0
  have hz : wa.heap.size = w.heap.size + 2 := by rw [hwa]; simp
  have hba : RowKit.Below w.heap.size w wa := by rw [hwa]; exact ((Below.refl _ _).alloc (Nat.le_refl _) _).alloc (by simp) _
  have c0 : wa.cell? ⟨w.heap.size, 0, none⟩ = some (.slice (some ⟨b, off, none⟩) d.size cap) := by rw [hwa]; simp [go_sem]
  have c1 : wa.cell? ⟨w.heap.size, 1, none⟩ = some (.int .i64 rest) := by rw [hwa]; simp [go_sem]
  rw [← hwa]
  have HH0 := Lib.hid hH0
  have HB := Lib.hid hba
  have C0 := Lib.hid c0
  have C1 := Lib.hid c1
  clear hwa hba hH0 hmk c0 c1
  obtain ⟨g, hg⟩ : ∃ g, g = w.heap.size + 1 := ⟨_, rfl⟩
  rw [← hg] at HH0 ⊢
  have hgl : w.heap.size < g := by omega
  have hgz : g < wa.heap.size := by omega
  clear hg hz
  go_loopw [7, 15] (fun t i wr => ∃ (k : Nat), i = .int .i64 k ∧ t = .int .i64 (rsum d o k) ∧ k ≤ o.size ∧ Hid (BoxN wr g (reachTo d o k)) ∧ Hid (RowKit.Below g wa wr) ∧ wa.heap.size ≤ wr.heap.size) (fun _ i _ => o.size - (Lib.intOf i).toNat)
  case atStart => exact ⟨0, rfl, rfl, Nat.zero_le _, HH0.out, Below.refl _ _, Nat.le_refl _⟩
  case round =>
    obtain ⟨k, rfl, rfl, hk, HH, HW, hw2⟩ := hrel
    have HWW := Lib.hid (HB.out.trans (HW.out.mono (Nat.le_of_lt hgl)))
    have hrs := rsum_bounds d o k
    obtain ⟨hr1, hr2⟩ := hrs
    by_cases hlt : k < o.size
    · have x0 := (HN.out.below HWW.out).cell k hlt
      have a0 := (HW.out.cell (p := ⟨w.heap.size, 0, none⟩) hgl).trans C0.out
      have a1 := (HW.out.cell (p := ⟨w.heap.size, 1, none⟩) hgl).trans C1.out
      obtain ⟨t, ht, htn⟩ := HORD.out.idx hlt
      rw [ht, Nat.zero_add] at x0
      have hx := HR.out.below HWW.out
      have y0 := hx.low t htn
      have y1 := hx.high t htn
      have y2 := hx.target t htn
      have y3 := hx.weight t htn
      obtain ⟨x, hxe⟩ : ∃ x, x = d[t]! := ⟨_, rfl⟩
      rw [← hxe] at y0 y1 y2 y3
      have HX := Lib.hid (show caseAt d o k = x by rw [caseAt, ht, Int.toNat_natCast, hxe])
      have HT := Lib.hid ht
      have hsum := Lib.hid (show rsum d o (k + 1) = rsum d o k + tcost x by rw [← HX.out]; rfl)
      obtain ⟨r, hr⟩ : ∃ r, r = rsum d o k := ⟨_, rfl⟩
      rw [← hr] at hr1 hr2 hsum ⊢
      have htb := tcost_bounds x
      obtain ⟨ht1, ht2⟩ := htb
      obtain ⟨tc, htc⟩ : ∃ tc, tc = tcost x := ⟨_, rfl⟩
      have hcall := fun W => l3Cost_any x W
      rw [← htc] at ht1 ht2 hsum hcall
      have HCL := Lib.hid hcall
      have hgA : t < (reachTo d o k).size := by rw [reachTo_size, HORD.out.1]; exact htn
      have z0 := (HH.out.holds t hgA).1
      have z1 := (HH.out.holds t hgA).2
      simp only [Nat.zero_add] at z0 z1
      have HGA := Lib.hid hgA
      have hgw : g < wr.heap.size := Nat.lt_of_lt_of_le hgz hw2
      have hoT : (t : Int) < (o.size : Int) := by have := HORD.out.1; omega
      clear hxe hr htc hx ht hcall hgA
      go_wp2_with (go_at_call 43; refine (HCL.out _).mono ?_; rintro y w2 ⟨rfl, hb2⟩; have u0 := (hb2.cell (p := ⟨g, t, none⟩) hgw).trans z0; have u1 := (hb2.frozen (p := ⟨g, t, none⟩) hgw).trans z1; have HB2 := Lib.hid hb2; clear hb2)
      go_roundw
      case rel =>
        have hh2 : BoxN w2 g (reachTo d o k) := HH.out.below HB2.out
        refine ⟨k + 1, by go_num, by rw [hsum.out], by omega, ?_, (HW.out.trans (HB2.out.mono (Nat.le_of_lt hgw))).setCell (p := ⟨g, t, none⟩) (Nat.le_refl _) _, ?_⟩
        · have := hh2.set t (rsum d o (k + 1))
          rw [hsum.out] at this
          show BoxN _ _ ((reachTo d o k).setIfInBounds (o[k]!).toNat (rsum d o (k + 1)))
          rw [HT.out, Int.toNat_natCast, hsum.out]
          exact this
        · have := HB2.out.size
          simp [World.setCell]
          omega
      case measure => simp [Lib.intOf]; omega
    · have hke : k = o.size := by omega
      subst hke
      go_wp2
      go_ret2
      exact ⟨g, rfl, Nat.le_of_lt hgl, HH.out, HWW.out⟩

/-! ReachCosts -/
noncomputable def reachN (d : Array CaseD) (rest : Int) (o : Array Int) : List Int := if ordS d rest o = true then (reachA d o).toList else []
theorem reachN_on {d : Array CaseD} {rest : Int} {o : Array Int} (h : ordS d rest o = true) : reachN d rest o = (reachA d o).toList := by rw [reachN, if_pos h]
theorem reachN_off {d : Array CaseD} {rest : Int} {o : Array Int} (h : ordS d rest o = false) : reachN d rest o = [] := by rw [reachN, if_neg (by rw [h]; exact Bool.false_ne_true)]
theorem ordS_on {d : Array CaseD} {rest : Int} {o : Array Int} (h : ordS d rest o = true) : SwOK d rest ∧ OrdOK d.size o := by
  rw [ordS, Bool.and_eq_true] at h
  exact ⟨(swB_iff _ _).1 h.1, (ordB_iff _ _).1 h.2⟩
theorem ret2N {v : Value} {a b : Bool} (h : a = b) : Ending.returned (.tuple #[v, .bool a]) = .returned (.tuple #[v, .bool b]) := by rw [h]
/-- Two results: a slice of integers of the call's own, and whether it is one. -/
def Ints2 (base : Nat) (L : List Int) (ok : Bool) (w : World) (x : Ending) (w' : World) : Prop :=
  ∃ v, x = .returned (.tuple #[v, .bool ok]) ∧ OwnsN base v L w' ∧ RowKit.Below base w w'

set_option maxRecDepth 100000 in
set_option maxHeartbeats 1000000 in
theorem specReach_any (b off cap : Nat) (d : Array CaseD) (rest : Int) (bo co : Nat) (o : Array Int) (w : World) (hR : RowC w b off d) (hcap : d.size ≤ cap) (hmax : cap ≤ maxLen) (hO : RowN w bo 0 o) (ho : o.size ≤ 1048576) :
    Calls Tryd.prog 33 #[.agg #[.slice (some ⟨b, off, none⟩) d.size cap, .int .i64 rest], .slice (some ⟨bo, 0, none⟩) o.size co] w (Ints2 w.heap.size (reachN d rest o) (ordS d rest o) w) := by
  have hv := fun W (hW : RowKit.Below w.heap.size w W) => specOrder_any b off cap d rest bo co o W (hR.below hW) hcap hmax (hO.below hW) ho
  have hk := fun W (hW : RowKit.Below w.heap.size w W) (h1 : SwOK d rest) (h2 : OrdOK d.size o) => l3Reach_any b off cap d rest bo co o W (hR.below hW) h1 (hO.below hW) h2
  have HK := Lib.hid hk
  obtain ⟨wa, hwa⟩ : ∃ wa, wa = w.alloc (.cells #[.slice (some ⟨b, off, none⟩) d.size cap, .int .i64 rest] 30) := ⟨_, rfl⟩
  have c0 : wa.cell? ⟨w.heap.size, 0, none⟩ = some (.slice (some ⟨b, off, none⟩) d.size cap) := by rw [hwa]; simp
  have c1 : wa.cell? ⟨w.heap.size, 1, none⟩ = some (.int .i64 rest) := by rw [hwa]; simp
  have hz : w.heap.size < wa.heap.size := by rw [hwa]; simp
  have hba : RowKit.Below w.heap.size w wa := by rw [hwa]; exact (Below.refl _ _).alloc (Nat.le_refl _) _
  have HA := Lib.hid hba
  have C0 := Lib.hid c0
  have C1 := Lib.hid c1
  have HWA := Lib.hid hwa
  clear hba c0 c1 hwa hR hO hk
  cases hs : ordS d rest o
  all_goals
    simp only [hs] at hv
    have HV := Lib.hid hv
    have HS := Lib.hid hs
    clear hv hs
    go_enter Tryd.func33, Tryd.ntmps33
    go_wp2_with fail
    rw [← HWA.out]
    refine (HV.out _ HA.out).mono ?_
    rintro x w1 ⟨rfl, hb⟩
    have HB := Lib.hid hb
    have hz1 := hb.size
    have a0 := (hb.cell (p := ⟨w.heap.size, 0, none⟩) hz).trans C0.out
    have a1 := (hb.cell (p := ⟨w.heap.size, 1, none⟩) hz).trans C1.out
    have HWB := Lib.hid (HA.out.trans (HB.out.mono (by omega)))
    clear hb
    go_wp2_with fail
  · go_ret2
    refine ⟨_, rfl, ?_, HWB.out.alloc (by omega) _⟩
    rw [reachN_off HS.out]
    exact World.ownsRow_made (base := w.heap.size) (e := 3) (size := 1) w1 #[] 0 (by omega) (by unfold maxLen; omega) rfl
  · obtain ⟨hok, hord⟩ := ordS_on HS.out
    have h8 : o.size ≤ 8 := by rw [hord.1]; exact hok.size
    refine (HK.out _ HWB.out hok hord).mono ?_
    rintro x w2 ⟨g, rfl, hg, hbx, hb2⟩
    have HX := Lib.hid hbx
    have HB2 := Lib.hid (HWB.out.trans (hb2.mono HWB.out.size))
    clear hok hord hbx hb2
    go_wp2
    go_ret2
    refine ⟨_, rfl, ?_, HB2.out⟩
    rw [reachN_on HS.out]
    have := HX.out.owns (base := w.heap.size) (by have := HWB.out.size; omega) (by rw [reachA_size]; omega)
    rw [reachA_size] at this
    exact this
end Go.Proofs.YthchhgjnelkmhaaDoor
