
/- RunChain: the program's and the model's. · RunChain of the model. · Plain: the tests of all cases, and those up to a case. -/
import Derived.Test.YtjmfcnblkojejaaDoorKsGo
import Derived.Test.YtjmfcnblkojejaaDoorKsReachD
import Derived.Test.YtjmfcnblkojejaaDoorKsRounds
import Derived.Test.YtjmfcnblkojejaaDoorKsCostP
import Derived.Test.YtjmfcnblkojejaaDoorKsTest
namespace Go.Proofs.YtjmfcnblkojejaaDoor
open Go.RowKit Go.Shelf Go.Lib Go.Sort

attribute [local go_sem] Oper.semAt_some

theorem box3B {W : World} {a0 a1 a2 : Nat} {t0 t1 t2 : TypeId} {u0 u1 u2 : Value} (h0 : Boxed W a0 t0 u0) (h1 : Boxed W a1 t1 u1) (h2 : Boxed W a2 t2 u2) (h01 : a0 ≠ a1) (h02 : a0 ≠ a2) (h12 : a1 ≠ a2) (v0 v1 v2 : Value) :
    Boxed (((W.setCell ⟨a0, 0, none⟩ v0).setCell ⟨a1, 0, none⟩ v1).setCell ⟨a2, 0, none⟩ v2) a0 t0 v0 ∧
    Boxed (((W.setCell ⟨a0, 0, none⟩ v0).setCell ⟨a1, 0, none⟩ v1).setCell ⟨a2, 0, none⟩ v2) a1 t1 v1 ∧
    Boxed (((W.setCell ⟨a0, 0, none⟩ v0).setCell ⟨a1, 0, none⟩ v1).setCell ⟨a2, 0, none⟩ v2) a2 t2 v2 := by
  have g0 := ((h0.set v0).kept (grownBy_setCell' _ a1 v1) (by simp [h01])).kept (grownBy_setCell' _ a2 v2) (by simp [h02])
  have g1 := ((h1.kept (grownBy_setCell' W a0 v0) (by simp [h01.symm])).set v1).kept (grownBy_setCell' _ a2 v2) (by simp [h12])
  have g2 := ((h2.kept (grownBy_setCell' W a0 v0) (by simp [h02.symm])).kept (grownBy_setCell' _ a1 v1) (by simp [h12.symm])).set v2
  exact ⟨g0, g1, g2⟩
/-- Three results in boxes, written one behind the other. -/
theorem box3 {W : World} {a0 a1 a2 : Nat} {t0 t1 t2 : TypeId} {u0 u1 u2 : Value} (h0 : Boxed W a0 t0 u0) (h1 : Boxed W a1 t1 u1) (h2 : Boxed W a2 t2 u2) (h01 : a0 ≠ a1) (h02 : a0 ≠ a2) (h12 : a1 ≠ a2) (v0 v1 v2 : Value) :
    (((W.setCell ⟨a0, 0, none⟩ v0).setCell ⟨a1, 0, none⟩ v1).setCell ⟨a2, 0, none⟩ v2).cell? ⟨a0, 0, none⟩ = some v0 ∧
    (((W.setCell ⟨a0, 0, none⟩ v0).setCell ⟨a1, 0, none⟩ v1).setCell ⟨a2, 0, none⟩ v2).cell? ⟨a1, 0, none⟩ = some v1 ∧
    (((W.setCell ⟨a0, 0, none⟩ v0).setCell ⟨a1, 0, none⟩ v1).setCell ⟨a2, 0, none⟩ v2).cell? ⟨a2, 0, none⟩ = some v2 := by
  have g0 := ((h0.set v0).kept (grownBy_setCell' _ a1 v1) (by simp [h01])).kept (grownBy_setCell' _ a2 v2) (by simp [h02])
  have g1 := ((h1.kept (grownBy_setCell' W a0 v0) (by simp [h01.symm])).set v1).kept (grownBy_setCell' _ a2 v2) (by simp [h12])
  have g2 := ((h2.kept (grownBy_setCell' W a0 v0) (by simp [h02.symm])).kept (grownBy_setCell' _ a1 v1) (by simp [h12.symm])).set v2
  exact ⟨g0.cell, g1.cell, g2.cell⟩
theorem grown_any1 {W W' : World} (h : RowKit.Below W.heap.size W W') (row : Option Nat) : W.grownBy W' row := ⟨h.os, h.tape, h.output, h.size, fun k hk _ => h.block k hk⟩
/-- The target of a key, and what tests cost until it is found. -/
def runT (d : Array CaseD) (key : Int) : ByteArray := if 0 ≤ atN d key then d[(atN d key).toNat]!.target else zS
def runC (d : Array CaseD) (o : Array Int) (key : Int) : Int := if 0 ≤ atN d key then (reachA d o)[(atN d key).toNat]! else rsum d o o.size
noncomputable def runB (d : Array CaseD) (rest : Int) (o : Array Int) (key : Int) : Bool := ordS d rest o && keyB key
noncomputable def runTN (d : Array CaseD) (rest : Int) (o : Array Int) (key : Int) : ByteArray := if runB d rest o key = true then runT d key else ⟨#[]⟩
noncomputable def runCN (d : Array CaseD) (rest : Int) (o : Array Int) (key : Int) : Int := if runB d rest o key = true then runC d o key else 0
theorem runTN_no {d : Array CaseD} {rest : Int} {o : Array Int} {key : Int} (h : runB d rest o key = false) : runTN d rest o key = ⟨#[]⟩ := by rw [runTN, if_neg (by rw [h]; exact Bool.false_ne_true)]
theorem runCN_no {d : Array CaseD} {rest : Int} {o : Array Int} {key : Int} (h : runB d rest o key = false) : runCN d rest o key = 0 := by rw [runCN, if_neg (by rw [h]; exact Bool.false_ne_true)]
theorem ret3 {a c : ByteArray} {x y : Int} {b e : Bool} (h : a = c) (h1 : x = y) (h2 : b = e) : Ending.returned (.tuple #[.string a, .int .i64 x, .bool b]) = .returned (.tuple #[.string c, .int .i64 y, .bool e]) := by rw [h, h1, h2]
/-- A case that has the key is the one. -/
theorem at_has {d : Array CaseD} {rest key : Int} (h : SwOK d rest) {t : Nat} (ht : t < d.size) (hk : hasB d[t]! key = true) : atN d key = t := by
  refine atN_hit ht hk fun j hj => ?_
  have h1 := h.before hj ht
  simp only [hasB, decide_eq_true_eq] at hk
  simp only [hasB, decide_eq_false_iff_not]
  omega
theorem run_stop {d : Array CaseD} {rest key : Int} {o : Array Int} (h : SwOK d rest) (ho : OrdOK d.size o) {j : Nat} (hj : j < o.size) (hk : hasB (caseAt d o j) key = true) : runT d key = (caseAt d o j).target ∧ runC d o key = rsum d o (j + 1) := by
  obtain ⟨t, ht, htn⟩ := ho.idx hj
  have e : caseAt d o j = d[t]! := by rw [caseAt, ht, Int.toNat_natCast]
  rw [e] at hk ⊢
  have ha := at_has h htn hk
  have hg := reachA_get ho (d := d) hj
  rw [ht, Int.toNat_natCast] at hg
  rw [runT, runC, ha, if_pos (by omega), if_pos (by omega), Int.toNat_natCast, hg]
  exact ⟨rfl, rfl⟩
theorem run_none {d : Array CaseD} {key : Int} {o : Array Int} (ho : OrdOK d.size o) (hk : ∀ j, j < o.size → hasB (caseAt d o j) key = false) : runT d key = zS ∧ runC d o key = rsum d o o.size := by
  have ha : atN d key = -1 := atN_miss fun i hi => by
    obtain ⟨j, hj, e⟩ := ord_onto ho hi
    have := hk j (by have := ho.1; omega)
    rwa [caseAt, e, Int.toNat_natCast] at this
  rw [runT, runC, ha, if_neg (by omega), if_neg (by omega)]
  exact ⟨rfl, rfl⟩

/-! by what an iterator hands over -/
def lastR' (l : List (Int × Int)) : Int := (l.getLast?.map (·.2)).getD 0
def tgtR (d : Array CaseD) (l : List (Int × Int)) : ByteArray := (l.getLast?.map fun p => d[p.1.toNat]!.target).getD ⟨#[]⟩
theorem lastR'_snoc (l : List (Int × Int)) (p : Int × Int) : lastR' (l ++ [p]) = p.2 := by simp [lastR']
theorem lastR'_reach (d : Array CaseD) (o : Array Int) : ∀ k, lastR' (reachL d o k) = rsum d o k
  | 0 => rfl
  | k + 1 => by rw [reachL_succ, lastR'_snoc]
theorem tgtR_snoc (d : Array CaseD) (l : List (Int × Int)) (p : Int × Int) : tgtR d (l ++ [p]) = d[p.1.toNat]!.target := by simp [tgtR]
def lastHas (d : Array CaseD) (key : Int) (l : List (Int × Int)) : Prop := ∃ p, l.getLast? = some p ∧ hasB d[p.1.toNat]! key = true

set_option maxRecDepth 100000 in
set_option maxHeartbeats 2000000 in
theorem implRun_any (b off cap : Nat) (d : Array CaseD) (rest key : Int) (bo co : Nat) (o : Array Int) (w : World) (hR : RowC w b off d) (hE : ErrAt w) (hcap : d.size ≤ cap) (hmax : cap ≤ maxLen) (hO : RowN w bo 0 o) (ho : o.size ≤ 1048576) :
    Calls Tryd.prog 28 #[.agg #[.slice (some ⟨b, off, none⟩) d.size cap, .int .i64 rest], .slice (some ⟨bo, 0, none⟩) o.size co, .int .i64 key] w fun x w' => x = .returned (.tuple #[.string (runTN d rest o key), .int .i64 (runCN d rest o key), .bool (runB d rest o key)]) ∧ RowKit.Below w.heap.size w w' := by
  have hv := fun W (hW : RowKit.Below w.heap.size w W) => implOrder_any b off cap d rest bo co o W (hR.below hW) (hE.below hW) hcap hmax (hO.below hW) ho
  have HR := Lib.hid hR
  have HN := Lib.hid hO
  have HV := Lib.hid hv
  clear hR hO hE hv
  refine (callsIn_wide (n := 5)).1 ?_
  refine callsIn_of_wp_marks Tryd.func28 rfl trivial ?_ rfl
  simp only [Tryd.ntmps28, List.size_toArray, List.length_cons, List.length_nil, Nat.reduceAdd, Nat.reduceSub, Array.replicate_succ, Array.replicate_zero, List.push_toArray, List.append_toArray, List.nil_append, List.cons_append]
  gi_wp2_with fail
  have bR0 := ((Boxed.new ((w.alloc (.cells #[.slice (some ⟨b, off, none⟩) d.size cap, .int .i64 rest] 25)).alloc (.cells #[.int .i64 key] 3)) 9 (.string ⟨#[]⟩)).alloc (.cells #[.int .i64 0] 3)).alloc (.cells #[.bool false] 4)
  have bR1 := (Boxed.new (((w.alloc (.cells #[.slice (some ⟨b, off, none⟩) d.size cap, .int .i64 rest] 25)).alloc (.cells #[.int .i64 key] 3)).alloc (.cells #[.string ⟨#[]⟩] 9)) 3 (.int .i64 0)).alloc (.cells #[.bool false] 4)
  have bR2 := Boxed.new ((((w.alloc (.cells #[.slice (some ⟨b, off, none⟩) d.size cap, .int .i64 rest] 25)).alloc (.cells #[.int .i64 key] 3)).alloc (.cells #[.string ⟨#[]⟩] 9)).alloc (.cells #[.int .i64 0] 3)) 4 (.bool false)
  obtain ⟨wa, hwa⟩ : ∃ wa, wa = ((((w.alloc (.cells #[.slice (some ⟨b, off, none⟩) d.size cap, .int .i64 rest] 25)).alloc (.cells #[.int .i64 key] 3)).alloc (.cells #[.string ⟨#[]⟩] 9)).alloc (.cells #[.int .i64 0] 3)).alloc (.cells #[.bool false] 4) := ⟨_, rfl⟩
  have c0 : wa.cell? ⟨w.heap.size, 0, none⟩ = some (.slice (some ⟨b, off, none⟩) d.size cap) := by rw [hwa]; simp [go_sem]
  have c1 : wa.cell? ⟨w.heap.size, 1, none⟩ = some (.int .i64 rest) := by rw [hwa]; simp [go_sem]
  have c2 : wa.cell? ⟨w.heap.size + 1, 0, none⟩ = some (.int .i64 key) := by rw [hwa]; simp [go_sem]
  have hz : wa.heap.size = w.heap.size + 5 := by rw [hwa]; simp
  have hba : RowKit.Below w.heap.size w wa := by rw [hwa]; exact (((((Below.refl _ _).alloc (Nat.le_refl _) _).alloc (by simp) _).alloc (by simp; omega) _).alloc (by simp; omega) _).alloc (by simp; omega) _
  rw [← hwa] at bR0 bR1 bR2 ⊢
  simp only [World.size_alloc] at bR0 bR1 bR2
  have HA := Lib.hid hba
  have C := Lib.hid (⟨c0, c1, c2⟩ : _ ∧ _ ∧ _)
  have BR := Lib.hid (⟨bR0, bR1, bR2⟩ : _ ∧ _ ∧ _)
  clear hba c0 c1 c2 hwa bR0 bR1 bR2
  have hvv := HV.out _ HA.out
  cases hs : ordS d rest o <;> cases hkb : keyB key
  all_goals
    simp only [hs] at hvv
    have HVV := Lib.hid hvv
    have HS := Lib.hid hs
    have HKB := Lib.hid hkb
    have hik := fun W => isKey_any key W
    simp only [hkb] at hik
    have HIK := Lib.hid hik
    clear hs hkb hvv hik
    refine ⟨trivial, ?_⟩
    refine (callsIn_wide.2 HVV.out).mono ?_
    rintro x w1 ⟨rfl, hb⟩
    have HB := Lib.hid hb
    have hz1 := hb.size
    have a2 := (hb.cell (p := ⟨w.heap.size + 1, 0, none⟩) (by omega : w.heap.size + 1 < wa.heap.size)).trans C.out.2.2
    have HWB := Lib.hid (HA.out.trans (HB.out.mono (by omega)))
    have BR1 := Lib.hid (⟨BR.out.1.kept (grown_any1 hb none) (by simp), BR.out.2.1.kept (grown_any1 hb none) (by simp), BR.out.2.2.kept (grown_any1 hb none) (by simp)⟩ : Boxed w1 (w.heap.size + 1 + 1) 9 (.string ⟨#[]⟩) ∧ Boxed w1 (w.heap.size + 1 + 1 + 1) 3 (.int .i64 0) ∧ Boxed w1 (w.heap.size + 1 + 1 + 1 + 1) 4 (.bool false))
    clear hb
    have r0 := BR1.out.1.cell
    have r1 := BR1.out.2.1.cell
    have r2 := BR1.out.2.2.cell
    have q0 := BR1.out.1.frozen
    have q1 := BR1.out.2.1.frozen
    have q2 := BR1.out.2.2.frozen
    gi_wp2_with fail
    refine ⟨trivial, ?_⟩
  iterate 2
    · have HRB := Lib.hid (show runB d rest o key = false by rw [runB, HS.out]; rfl)
      gi_wp2
      obtain ⟨z0, z1, z2⟩ := box3 BR1.out.1 BR1.out.2.1 BR1.out.2.2 (by omega) (by omega) (by omega) (.string ⟨#[]⟩) (.int .i64 0) (.bool false)
      refine ⟨.tuple #[.string ⟨#[]⟩, .int .i64 0, .bool false], by simp [results, Tryd.results28, go_sem, z0, z1, z2], ret3 (runTN_no HRB.out).symm (runCN_no HRB.out).symm HRB.out.symm, ?_⟩
      exact ((HWB.out.setCell (p := ⟨w.heap.size + 1 + 1, 0, none⟩) (by show w.heap.size ≤ w.heap.size + 1 + 1; omega) _).setCell (p := ⟨w.heap.size + 1 + 1 + 1, 0, none⟩) (by show w.heap.size ≤ w.heap.size + 1 + 1 + 1; omega) _).setCell (p := ⟨w.heap.size + 1 + 1 + 1 + 1, 0, none⟩) (by show w.heap.size ≤ w.heap.size + 1 + 1 + 1 + 1; omega) _
  · refine (callsIn_wide.2 (HIK.out _)).mono ?_
    rintro y w2 ⟨rfl, rfl⟩
    have HRB := Lib.hid (show runB d rest o key = false by rw [runB, HKB.out, Bool.and_false])
    gi_wp2
    obtain ⟨z0, z1, z2⟩ := box3 BR1.out.1 BR1.out.2.1 BR1.out.2.2 (by omega) (by omega) (by omega) (.string ⟨#[]⟩) (.int .i64 0) (.bool false)
    refine ⟨.tuple #[.string ⟨#[]⟩, .int .i64 0, .bool false], by simp [results, Tryd.results28, go_sem, z0, z1, z2], ret3 (runTN_no HRB.out).symm (runCN_no HRB.out).symm HRB.out.symm, ?_⟩
    exact ((HWB.out.setCell (p := ⟨w.heap.size + 1 + 1, 0, none⟩) (by show w.heap.size ≤ w.heap.size + 1 + 1; omega) _).setCell (p := ⟨w.heap.size + 1 + 1 + 1, 0, none⟩) (by show w.heap.size ≤ w.heap.size + 1 + 1 + 1; omega) _).setCell (p := ⟨w.heap.size + 1 + 1 + 1 + 1, 0, none⟩) (by show w.heap.size ≤ w.heap.size + 1 + 1 + 1 + 1; omega) _
  · refine (callsIn_wide.2 (HIK.out _)).mono ?_
    rintro y w2 ⟨rfl, rfl⟩
    have hb0 := (HB.out.cell (p := ⟨w.heap.size, 0, none⟩) (by omega : w.heap.size < wa.heap.size)).trans C.out.1
    have hb1 := (HB.out.cell (p := ⟨w.heap.size, 1, none⟩) (by omega : w.heap.size < wa.heap.size)).trans C.out.2.1
    have hwl : w.heap.size < w1.heap.size := by omega
    gi_wp2_with fail
    refine ⟨trivial, ?_⟩
    refine (callsIn_wide.2 (reaches_any (some ⟨bo, 0, none⟩) o.size co (.slice (some ⟨b, off, none⟩) d.size cap) rest _)).mono ?_
    rintro x w2 ⟨rfl, rfl⟩
    -- BODY
    gi_wp2_with fail
    obtain ⟨hok, hord⟩ := ordS_on HS.out
    have h8d : (d.size : Int) ≤ 8 := by have := hok.size; omega
    have HOK := Lib.hid hok
    have HORD := Lib.hid hord
    have bC := ((Boxed.new w1 3 (.int .i64 0)).alloc (.cells #[.slice (some ⟨bo, 0, none⟩) o.size co] 87)).alloc (.cells #[.slice (some ⟨b, off, none⟩) d.size cap, .int .i64 rest] 25)
    obtain ⟨W0, hW0⟩ : ∃ W0, W0 = ((w1.alloc (.cells #[.int .i64 0] 3)).alloc (.cells #[.slice (some ⟨bo, 0, none⟩) o.size co] 87)).alloc (.cells #[.slice (some ⟨b, off, none⟩) d.size cap, .int .i64 rest] 25) := ⟨_, rfl⟩
    have f0 : W0.cell? ⟨w1.heap.size + 1, 0, none⟩ = some (.slice (some ⟨bo, 0, none⟩) o.size co) := by rw [hW0]; simp [go_sem]
    have e0 : W0.cell? ⟨w1.heap.size + 1 + 1, 0, none⟩ = some (.slice (some ⟨b, off, none⟩) d.size cap) := by rw [hW0]; simp [go_sem]
    have e1 : W0.cell? ⟨w1.heap.size + 1 + 1, 1, none⟩ = some (.int .i64 rest) := by rw [hW0]; simp [go_sem]
    have hsz : W0.heap.size = w1.heap.size + 3 := by rw [hW0]; simp
    have hB10 : RowKit.Below w1.heap.size w1 W0 := by rw [hW0]; exact (((Below.refl _ _).alloc (Nat.le_refl _) _).alloc (by simp) _).alloc (by simp; omega) _
    rw [← hW0] at bC ⊢
    clear hW0
    have HB0 := Lib.hid (HWB.out.trans (hB10.mono (by omega)))
    have hI := (⟨e0, e1, by omega, HR.out.below HB0.out, HN.out.below HB0.out⟩ : ItR (w1.heap.size + 1 + 1) b off cap bo d rest o W0)
    have hbl : b < w.heap.size := HR.out.old
    have hbol : bo < w.heap.size := HN.out.old
    have HSEQ := Lib.hid (reaches_stops 4 (w1.heap.size + 1) (w1.heap.size + 1 + 1) b off cap bo co d rest o W0 (by decide) hok hord f0 (by omega) hI)
    have HB10 := Lib.hid hB10
    have HRW := Lib.hid (HR.out.below HWB.out)
    have S0 := Lib.hid (⟨hb0, hb1, a2⟩ : _ ∧ _ ∧ _)
    have hw5 : w.heap.size + 5 ≤ w1.heap.size := by omega
    have KC := Lib.hid (show ¬ KR (w1.heap.size + 1 + 1) b bo w1.heap.size by rintro (h | h | h) <;> omega)
    have K0 := Lib.hid (show ¬ KR (w1.heap.size + 1 + 1) b bo (w.heap.size + 1 + 1) by rintro (h | h | h) <;> omega)
    have K1 := Lib.hid (show ¬ KR (w1.heap.size + 1 + 1) b bo (w.heap.size + 1 + 1 + 1) by rintro (h | h | h) <;> omega)
    have K2 := Lib.hid (show ¬ KR (w1.heap.size + 1 + 1) b bo (w.heap.size + 1 + 1 + 1 + 1) by rintro (h | h | h) <;> omega)
    have hlt0 : w1.heap.size + 2 < W0.heap.size := by omega
    clear hok hord f0 e0 e1 hB10 hI hsz r0 r1 r2 q0 q1 q2 a2 hb0 hb1
    refine wpIn_rangeFunc_ownH rfl (by decide) (gf := 114) (lb := #[.pointer (some ⟨w1.heap.size + 1, 0, none⟩), .pointer (some ⟨w1.heap.size + 1 + 1, 0, none⟩)]) rfl trivial (enters_of Tryd.func114 (by kernel_rfl) rfl)
      HSEQ.out KpS.trans (kpS_b (by rintro i (rfl | rfl | rfl) <;> have := HB10.out.size <;> omega)) (Below.refl _ _) (fun _ => rfl)
      (fun pre W => (Boxed W w1.heap.size 3 (.int .i64 (lastR' (valR pre))) ∧ RowKit.Below w1.heap.size w1 W) ∧ (∀ p ∈ valR pre, hasB d[p.1.toNat]! key = false))
      (fun c pre W => ((Boxed W (w.heap.size + 1 + 1) 9 (.string (tgtR d (valR pre))) ∧ Boxed W (w.heap.size + 1 + 1 + 1) 3 (.int .i64 (lastR' (valR pre))) ∧ Boxed W (w.heap.size + 1 + 1 + 1 + 1) 4 (.bool true)) ∧ RowKit.Below w.heap.size w W) ∧ (c = .ret ∧ lastHas d key (valR pre)))
      (OwnFrom.and (OwnFrom.and (Own.from (boxed_own _ _ _) _) (ownFrom_below (by omega) (by have := HB10.out.size; omega))) (fun _ _ _ _ hs _ _ => hs))
      (fun c => OwnFrom.and (OwnFrom.and (OwnFrom.and (Own.from (boxed_own _ _ _) _) (OwnFrom.and (Own.from (boxed_own _ _ _) _) (Own.from (boxed_own _ _ _) _))) (ownFrom_below (by have := HB10.out.size; omega) (by have := HB10.out.size; omega))) (fun _ _ _ _ hs _ _ => hs))
      ⟨⟨bC, HB10.out⟩, fun p hp => by cases hp⟩
      (fun x a' _ => a' = { tmps := #[.agg #[.slice (some ⟨b, off, none⟩) d.size cap, .int .i64 rest], .slice (some ⟨bo, 0, none⟩) o.size co, .int .i64 key, .pointer (some ⟨w.heap.size, 0, none⟩), undef, .pointer (some ⟨w.heap.size + 1, 0, none⟩), .pointer (some ⟨w.heap.size + 1 + 1, 0, none⟩), .pointer (some ⟨w.heap.size + 1 + 1 + 1, 0, none⟩), .pointer (some ⟨w.heap.size + 1 + 1 + 1 + 1, 0, none⟩), .pointer (some ⟨w1.heap.size, 0, none⟩), .int .i64 x.1.1, .int .i64 x.1.2, .agg #[.slice (some ⟨b, off, none⟩) d.size cap, .int .i64 rest], .slice (some ⟨bo, 0, none⟩) o.size co, .bool true, .bool false, .bool false, .int .i64 key, .bool true, .bool false, .bool false, .slice (some ⟨bo, 0, none⟩) o.size co, .agg #[.slice (some ⟨b, off, none⟩) d.size cap, .int .i64 rest], .func (.func 114) #[] #[.pointer (some ⟨w1.heap.size + 1, 0, none⟩), .pointer (some ⟨w1.heap.size + 1 + 1, 0, none⟩)], .int .i64 x.1.1, .int .i64 x.1.2, undef, undef, undef, undef, undef, undef, undef, undef, undef, undef, undef, undef, undef, undef, undef, undef, undef], defers := [] })
      (fun x a' _ X Y row hs hg hr => hs)
      ?assign ?body ?done ?stop
    case assign =>
      rintro l pre x W K hI1 hK
      gi_wp2
      exact hK _ _ ((KeepsOthers.refl _).from _) (KpS.refl _ _) hI1 rfl
    case body =>
      rintro l pre x a' W hl ⟨r, hr⟩ ⟨⟨bC1, hB1⟩, hno⟩ rfl hlt
      have hsn := Lib.hid (valR_snoc pre x)
      obtain ⟨⟨xi, xr⟩, ⟨hx0, hx1⟩, hx2, hx3⟩ := x
      simp only at hx0 hx1 hx2 hx3
      obtain ⟨t, rfl⟩ : ∃ t : Nat, xi = t := ⟨xi.toNat, by omega⟩
      have htn : t < d.size := by omega
      have hll : l < W.heap.size := (Array.getElem?_eq_some_iff.1 hr).1
      have hcC := bC1.cell
      have hfC := bC1.frozen
      have BC := Lib.hid bC1
      have HB1 := Lib.hid hB1
      have HNO := Lib.hid hno
      clear bC1 hB1 hno hr
      have hbs := HB1.out.setCell (p := ⟨w1.heap.size, 0, none⟩) (Nat.le_refl _) (.int .i64 xr)
      have hbc := BC.out.set (.int .i64 xr)
      have hko := KeepsOthers.setCell W ⟨w1.heap.size, 0, none⟩ (.int .i64 xr)
      have hks : KpS (KR (w1.heap.size + 1 + 1) b bo) W (W.setCell ⟨w1.heap.size, 0, none⟩ (.int .i64 xr)) := KpS.set _ _ KC.out
      gi_wp2
      obtain ⟨W1, hW1⟩ : ∃ W1, W1 = W.setCell ⟨w1.heap.size, 0, none⟩ (.int .i64 xr) := ⟨_, rfl⟩
      rw [← hW1] at hbs hbc hko hks ⊢
      have HKL := Lib.hid (show ∀ i, KR (w1.heap.size + 1 + 1) b bo i → i < W1.heap.size by
        have e : W1.heap.size = W.heap.size := by rw [hW1]; simp
        rintro i (rfl | rfl | rfl) <;> omega)
      have HBS := Lib.hid hbs
      have HBC := Lib.hid hbc
      have HKO := Lib.hid hko
      have HKS := Lib.hid hks
      clear hW1 hbs hbc hko hks hcC hfC
      have s0 := (HBS.out.cell (p := ⟨w.heap.size, 0, none⟩) hwl).trans S0.out.1
      have s1 := (HBS.out.cell (p := ⟨w.heap.size, 1, none⟩) hwl).trans S0.out.2.1
      have sk := (HBS.out.cell (p := ⟨w.heap.size + 1, 0, none⟩) (by omega : w.heap.size + 1 < w1.heap.size)).trans S0.out.2.2
      have hb1l : b < w1.heap.size := by omega
      have x0 := (HBS.out.cell (p := ⟨b, off + t * 4, none⟩) hb1l).trans (HRW.out.low t htn)
      have x1 := (HBS.out.cell (p := ⟨b, off + t * 4 + 1, none⟩) hb1l).trans (HRW.out.high t htn)
      have x2 := (HBS.out.cell (p := ⟨b, off + t * 4 + 2, none⟩) hb1l).trans (HRW.out.target t htn)
      have x3 := (HBS.out.cell (p := ⟨b, off + t * 4 + 3, none⟩) hb1l).trans (HRW.out.weight t htn)
      obtain ⟨x, hxe⟩ : ∃ x, x = d[t]! := ⟨_, rfl⟩
      rw [← hxe] at x0 x1 x2 x3
      have XE := Lib.hid hxe
      have hhas := fun W => has_any x key W
      clear hxe
      cases hq : hasB x key
      all_goals
        simp only [hq] at hhas
        have HHAS := Lib.hid hhas
        have HQ := Lib.hid hq
        clear hhas hq
        unfold aggC at HHAS
      · refine region_round (by kernel_rfl) (by kernel_rfl) ?_
        refine wpAnyIn_take (i := 0) (v := ?v1) rfl rfl (by kernel_rfl) (by kernel_rfl) (by kernel_rfl) (fun _ _ _ h => h) ⟨Or.inl ⟨by rfl, ?h1⟩, fun _ => rfl⟩ ?r1
        case h1 => ((intro w; go_simp) <;> with_reducible rfl)
        try simp only [Act.put, List.setIfInBounds_toArray, List.set_cons_zero, List.set_cons_succ]
        refine wpAnyIn_take (i := 2) (v := ?v2) rfl rfl (by kernel_rfl) (by kernel_rfl) (by kernel_rfl) (fun _ _ _ h => h) ⟨Or.inl ⟨by rfl, ?h2⟩, fun _ => rfl⟩ ?r2
        case h2 => ((intro w; go_simp) <;> with_reducible rfl)
        try simp only [Act.put, List.setIfInBounds_toArray, List.set_cons_zero, List.set_cons_succ]
        refine wpAnyIn_ready (rs := [1, 5]) (by kernel_rfl) (by simp) (AllReadyIn.cons rfl (fun K hK => ?_) (AllReadyIn.cons rfl (fun K hK => ?_) AllReadyIn.nil))
        · go_simp
          refine hK _ _ ?_
          clear hK K
          refine wpAnyIn_take (i := 3) (v := ?v3) rfl rfl (by kernel_rfl) (by kernel_rfl) (by kernel_rfl) (fun _ _ _ h => h) ⟨Or.inl ⟨by rfl, ?h3⟩, fun _ => rfl⟩ ?r3
          case h3 => ((intro w; go_simp) <;> with_reducible rfl)
          try simp only [Act.put, List.setIfInBounds_toArray, List.set_cons_zero, List.set_cons_succ]
          refine wpAnyIn_ready (rs := [4, 5]) (by kernel_rfl) (by simp) (AllReadyIn.cons rfl (fun K hK => ?_) (AllReadyIn.cons rfl (fun K hK => ?_) AllReadyIn.nil))
          · go_simp
            refine hK _ _ ?_
            clear hK K
            refine wpAnyIn_ready (rs := [5]) (by kernel_rfl) (by simp) (AllReadyIn.cons rfl (fun K hK => ?_) AllReadyIn.nil)
            go_simp
            refine hK _ _ ?_
            clear hK K
            refine wpAnyIn_ready (rs := [6]) (by kernel_rfl) (by simp) (AllReadyIn.cons rfl (fun K hK => ?_) AllReadyIn.nil)
            go_simp
            refine ⟨trivial, ?_⟩
            refine (callsIn_wide.2 (HHAS.out _)).mono ?_
            rintro e w3 ⟨rfl, hb3⟩
            have HB3 := Lib.hid hb3
            clear hb3
            refine hK _ _ ?_
            clear hK K
            refine wpAnyIn_done (by kernel_rfl) ?_ _
            gi_wp2
            have hk3 := (Below.refl W1.heap.size W1).drew.trans HB3.out
            refine ⟨(HKO.out.trans (KeepsOthers.of_grownBy (row := none) (grown_any1 hk3 none) (fun j o e _ => by cases e))).from _, HKS.out.trans (KpS.of_below HKL.out hk3), ⟨?_, HBS.out.trans (hk3.mono HBS.out.size)⟩, fun p hp => ?_⟩
            · rw [hsn.out, lastR'_snoc]
              exact HBC.out.kept (grown_any1 hk3 none) (by simp)
            · rw [hsn.out] at hp
              rcases List.mem_append.1 hp with h | h
              · exact HNO.out p h
              · obtain rfl := List.mem_singleton.1 h
                simp only [Int.toNat_natCast]
                rw [← XE.out]
                exact HQ.out
          · go_simp
            refine hK _ _ ?_
            clear hK K
            refine wpAnyIn_ready (rs := [4]) (by kernel_rfl) (by simp) (AllReadyIn.cons rfl (fun K hK => ?_) AllReadyIn.nil)
            go_simp
            refine hK _ _ ?_
            clear hK K
            refine wpAnyIn_ready (rs := [6]) (by kernel_rfl) (by simp) (AllReadyIn.cons rfl (fun K hK => ?_) AllReadyIn.nil)
            go_simp
            refine ⟨trivial, ?_⟩
            refine (callsIn_wide.2 (HHAS.out _)).mono ?_
            rintro e w3 ⟨rfl, hb3⟩
            have HB3 := Lib.hid hb3
            clear hb3
            refine hK _ _ ?_
            clear hK K
            refine wpAnyIn_done (by kernel_rfl) ?_ _
            gi_wp2
            have hk3 := (Below.refl W1.heap.size W1).drew.trans HB3.out
            refine ⟨(HKO.out.trans (KeepsOthers.of_grownBy (row := none) (grown_any1 hk3 none) (fun j o e _ => by cases e))).from _, HKS.out.trans (KpS.of_below HKL.out hk3), ⟨?_, HBS.out.trans (hk3.mono HBS.out.size)⟩, fun p hp => ?_⟩
            · rw [hsn.out, lastR'_snoc]
              exact HBC.out.kept (grown_any1 hk3 none) (by simp)
            · rw [hsn.out] at hp
              rcases List.mem_append.1 hp with h | h
              · exact HNO.out p h
              · obtain rfl := List.mem_singleton.1 h
                simp only [Int.toNat_natCast]
                rw [← XE.out]
                exact HQ.out
        · go_simp
          refine hK _ _ ?_
          clear hK K
          refine wpAnyIn_ready (rs := [1]) (by kernel_rfl) (by simp) (AllReadyIn.cons rfl (fun K hK => ?_) AllReadyIn.nil)
          go_simp
          refine hK _ _ ?_
          clear hK K
          refine wpAnyIn_take (i := 3) (v := ?v4) rfl rfl (by kernel_rfl) (by kernel_rfl) (by kernel_rfl) (fun _ _ _ h => h) ⟨Or.inl ⟨by rfl, ?h4⟩, fun _ => rfl⟩ ?r4
          case h4 => ((intro w; go_simp) <;> with_reducible rfl)
          try simp only [Act.put, List.setIfInBounds_toArray, List.set_cons_zero, List.set_cons_succ]
          refine wpAnyIn_ready (rs := [4]) (by kernel_rfl) (by simp) (AllReadyIn.cons rfl (fun K hK => ?_) AllReadyIn.nil)
          go_simp
          refine hK _ _ ?_
          clear hK K
          refine wpAnyIn_ready (rs := [6]) (by kernel_rfl) (by simp) (AllReadyIn.cons rfl (fun K hK => ?_) AllReadyIn.nil)
          go_simp
          refine ⟨trivial, ?_⟩
          refine (callsIn_wide.2 (HHAS.out _)).mono ?_
          rintro e w3 ⟨rfl, hb3⟩
          have HB3 := Lib.hid hb3
          clear hb3
          refine hK _ _ ?_
          clear hK K
          refine wpAnyIn_done (by kernel_rfl) ?_ _
          gi_wp2
          have hk3 := (Below.refl W1.heap.size W1).drew.trans HB3.out
          refine ⟨(HKO.out.trans (KeepsOthers.of_grownBy (row := none) (grown_any1 hk3 none) (fun j o e _ => by cases e))).from _, HKS.out.trans (KpS.of_below HKL.out hk3), ⟨?_, HBS.out.trans (hk3.mono HBS.out.size)⟩, fun p hp => ?_⟩
          · rw [hsn.out, lastR'_snoc]
            exact HBC.out.kept (grown_any1 hk3 none) (by simp)
          · rw [hsn.out] at hp
            rcases List.mem_append.1 hp with h | h
            · exact HNO.out p h
            · obtain rfl := List.mem_singleton.1 h
              simp only [Int.toNat_natCast]
              rw [← XE.out]
              exact HQ.out

      · refine region_round (by kernel_rfl) (by kernel_rfl) ?_
        refine wpAnyIn_take (i := 0) (v := ?v5) rfl rfl (by kernel_rfl) (by kernel_rfl) (by kernel_rfl) (fun _ _ _ h => h) ⟨Or.inl ⟨by rfl, ?h5⟩, fun _ => rfl⟩ ?r5
        case h5 => ((intro w; go_simp) <;> with_reducible rfl)
        try simp only [Act.put, List.setIfInBounds_toArray, List.set_cons_zero, List.set_cons_succ]
        refine wpAnyIn_take (i := 2) (v := ?v6) rfl rfl (by kernel_rfl) (by kernel_rfl) (by kernel_rfl) (fun _ _ _ h => h) ⟨Or.inl ⟨by rfl, ?h6⟩, fun _ => rfl⟩ ?r6
        case h6 => ((intro w; go_simp) <;> with_reducible rfl)
        try simp only [Act.put, List.setIfInBounds_toArray, List.set_cons_zero, List.set_cons_succ]
        refine wpAnyIn_ready (rs := [1, 5]) (by kernel_rfl) (by simp) (AllReadyIn.cons rfl (fun K hK => ?_) (AllReadyIn.cons rfl (fun K hK => ?_) AllReadyIn.nil))
        · go_simp
          refine hK _ _ ?_
          clear hK K
          refine wpAnyIn_take (i := 3) (v := ?v7) rfl rfl (by kernel_rfl) (by kernel_rfl) (by kernel_rfl) (fun _ _ _ h => h) ⟨Or.inl ⟨by rfl, ?h7⟩, fun _ => rfl⟩ ?r7
          case h7 => ((intro w; go_simp) <;> with_reducible rfl)
          try simp only [Act.put, List.setIfInBounds_toArray, List.set_cons_zero, List.set_cons_succ]
          refine wpAnyIn_ready (rs := [4, 5]) (by kernel_rfl) (by simp) (AllReadyIn.cons rfl (fun K hK => ?_) (AllReadyIn.cons rfl (fun K hK => ?_) AllReadyIn.nil))
          · go_simp
            refine hK _ _ ?_
            clear hK K
            refine wpAnyIn_ready (rs := [5]) (by kernel_rfl) (by simp) (AllReadyIn.cons rfl (fun K hK => ?_) AllReadyIn.nil)
            go_simp
            refine hK _ _ ?_
            clear hK K
            refine wpAnyIn_ready (rs := [6]) (by kernel_rfl) (by simp) (AllReadyIn.cons rfl (fun K hK => ?_) AllReadyIn.nil)
            go_simp
            refine ⟨trivial, ?_⟩
            refine (callsIn_wide.2 (HHAS.out _)).mono ?_
            rintro e w3 ⟨rfl, hb3⟩
            have HB3 := Lib.hid hb3
            clear hb3
            refine hK _ _ ?_
            clear hK K
            refine wpAnyIn_done (by kernel_rfl) ?_ _
            gi_wp2
            have hk3 := (Below.refl W1.heap.size W1).drew.trans HB3.out
            have HK3 := Lib.hid hk3
            have HBS3 := Lib.hid (HBS.out.trans (hk3.mono HBS.out.size))
            have t0 := (HBS3.out.cell (p := ⟨w.heap.size, 0, none⟩) hwl).trans S0.out.1
            have t2 := (hk3.cell (p := ⟨b, off + t * 4 + 2, none⟩) (Nat.lt_of_lt_of_le hb1l HBS.out.size)).trans x2
            have hbc3 := HBC.out.kept (grown_any1 hk3 none) (by simp)
            have tc := hbc3.cell
            have B0 := Lib.hid (BR1.out.1.kept (grown_any1 HBS3.out none) (by simp))
            have B1 := Lib.hid (BR1.out.2.1.kept (grown_any1 HBS3.out none) (by simp))
            have B2 := Lib.hid (BR1.out.2.2.kept (grown_any1 HBS3.out none) (by simp))
            have u0 := B0.out.cell
            have u1 := B1.out.cell
            have u2 := B2.out.cell
            have f0 := B0.out.frozen
            have f1 := B1.out.frozen
            have f2 := B2.out.frozen
            have n0 : ¬ w.heap.size + 1 + 1 = w1.heap.size := by omega
            have n1 : ¬ w1.heap.size = w.heap.size + 1 + 1 := by omega
            clear hbc3 hk3 s0 s1 sk x0 x1 x2 x3
            refine region_round (by kernel_rfl) (by kernel_rfl) ?_
            refine wpAnyIn_take (i := 0) (v := ?v9) rfl rfl (by kernel_rfl) (by kernel_rfl) (by kernel_rfl) (fun _ _ _ h => h) ⟨Or.inl ⟨by rfl, ?h9⟩, fun _ => rfl⟩ ?r9
            case h9 => ((intro w; go_simp) <;> with_reducible rfl)
            try simp only [Act.put, List.setIfInBounds_toArray, List.set_cons_zero, List.set_cons_succ]
            refine wpAnyIn_take (i := 2) (v := ?v10) rfl rfl (by kernel_rfl) (by kernel_rfl) (by kernel_rfl) (fun _ _ _ h => h) ⟨Or.inl ⟨by rfl, ?h10⟩, fun _ => rfl⟩ ?r10
            case h10 => ((intro w; go_simp) <;> with_reducible rfl)
            try simp only [Act.put, List.setIfInBounds_toArray, List.set_cons_zero, List.set_cons_succ]
            refine wpAnyIn_ready (rs := [1, 6]) (by kernel_rfl) (by simp) (AllReadyIn.cons rfl (fun K hK => ?_) (AllReadyIn.cons rfl (fun K hK => ?_) AllReadyIn.nil))
            · go_simp
              refine hK _ _ ?_
              clear hK K
              refine wpAnyIn_take (i := 3) (v := ?v11) rfl rfl (by kernel_rfl) (by kernel_rfl) (by kernel_rfl) (fun _ _ _ h => h) ⟨Or.inl ⟨by rfl, ?h11⟩, fun _ => rfl⟩ ?r11
              case h11 => ((intro w; go_simp) <;> with_reducible rfl)
              try simp only [Act.put, List.setIfInBounds_toArray, List.set_cons_zero, List.set_cons_succ]
              refine wpAnyIn_take (i := 4) (v := ?v12) rfl rfl (by kernel_rfl) (by kernel_rfl) (by kernel_rfl) (fun _ _ _ h => h) ⟨Or.inl ⟨by rfl, ?h12⟩, fun _ => rfl⟩ ?r12
              case h12 => ((intro w; go_simp) <;> with_reducible rfl)
              try simp only [Act.put, List.setIfInBounds_toArray, List.set_cons_zero, List.set_cons_succ]
              refine wpAnyIn_ready (rs := [5, 6]) (by kernel_rfl) (by simp) (AllReadyIn.cons rfl (fun K hK => ?_) (AllReadyIn.cons rfl (fun K hK => ?_) AllReadyIn.nil))
              · go_simp
                refine hK _ _ ?_
                clear hK K
                refine wpAnyIn_ready (rs := [6, 7]) (by kernel_rfl) (by simp) (AllReadyIn.cons rfl (fun K hK => ?_) (AllReadyIn.cons rfl (fun K hK => ?_) AllReadyIn.nil))
                · go_simp
                  refine hK _ _ ?_
                  clear hK K
                  refine wpAnyIn_ready (rs := [7]) (by kernel_rfl) (by simp) (AllReadyIn.cons rfl (fun K hK => ?_) AllReadyIn.nil)
                  go_simp
                  refine hK _ _ ?_
                  clear hK K
                  refine wpAnyIn_ready (rs := [8]) (by kernel_rfl) (by simp) (AllReadyIn.cons rfl (fun K hK => ?_) AllReadyIn.nil)
                  go_simp
                  refine hK _ _ ?_
                  clear hK K
                  refine wpAnyIn_ready (rs := [9]) (by kernel_rfl) (by simp) (AllReadyIn.cons rfl (fun K hK => ?_) AllReadyIn.nil)
                  go_simp
                  refine hK _ _ ?_
                  clear hK K
                  refine wpAnyIn_done (by kernel_rfl) ?_ _
                  gi_wp2
                  obtain ⟨y0, y1, y2⟩ := box3B B0.out B1.out B2.out (by omega) (by omega) (by omega) (.string x.target) (.int .i64 xr) (.bool true)
                  refine ⟨((HKO.out.trans (KeepsOthers.of_grownBy (row := none) (grown_any1 HK3.out none) (fun j o e _ => by cases e))).trans (((KeepsOthers.setCell w3 ⟨w.heap.size + 1 + 1, 0, none⟩ (.string x.target)).trans (KeepsOthers.setCell _ ⟨w.heap.size + 1 + 1 + 1, 0, none⟩ (.int .i64 xr))).trans (KeepsOthers.setCell _ ⟨w.heap.size + 1 + 1 + 1 + 1, 0, none⟩ (.bool true))) |>.trans (KeepsOthers.of_grownBy (row := none) (grown_drew1N (grown_reflN _ none)) (fun j o e _ => by cases e))).from _, ⟨⟨?_, ?_, ?_⟩, ?_⟩, rfl, ?_⟩
                  · rw [hsn.out, tgtR_snoc, Int.toNat_natCast, ← XE.out]
                    exact y0
                  · rw [hsn.out, lastR'_snoc]
                    exact y1
                  · exact y2
                  · exact ((((HWB.out.trans (HBS3.out.mono HWB.out.size)).setCell (p := ⟨w.heap.size + 1 + 1, 0, none⟩) (by show w.heap.size ≤ w.heap.size + 1 + 1; omega) _).setCell (p := ⟨w.heap.size + 1 + 1 + 1, 0, none⟩) (by show w.heap.size ≤ w.heap.size + 1 + 1 + 1; omega) _).setCell (p := ⟨w.heap.size + 1 + 1 + 1 + 1, 0, none⟩) (by show w.heap.size ≤ w.heap.size + 1 + 1 + 1 + 1; omega) _).drew
                  · refine ⟨((t : Int), xr), by rw [hsn.out]; simp, ?_⟩
                    rw [Int.toNat_natCast, ← XE.out]
                    exact HQ.out
                · go_simp
                  refine hK _ _ ?_
                  clear hK K
                  refine wpAnyIn_ready (rs := [6]) (by kernel_rfl) (by simp) (AllReadyIn.cons rfl (fun K hK => ?_) AllReadyIn.nil)
                  go_simp
                  refine hK _ _ ?_
                  clear hK K
                  refine wpAnyIn_ready (rs := [8]) (by kernel_rfl) (by simp) (AllReadyIn.cons rfl (fun K hK => ?_) AllReadyIn.nil)
                  go_simp
                  refine hK _ _ ?_
                  clear hK K
                  refine wpAnyIn_ready (rs := [9]) (by kernel_rfl) (by simp) (AllReadyIn.cons rfl (fun K hK => ?_) AllReadyIn.nil)
                  go_simp
                  refine hK _ _ ?_
                  clear hK K
                  refine wpAnyIn_done (by kernel_rfl) ?_ _
                  gi_wp2
                  obtain ⟨y0, y1, y2⟩ := box3B B0.out B1.out B2.out (by omega) (by omega) (by omega) (.string x.target) (.int .i64 xr) (.bool true)
                  refine ⟨((HKO.out.trans (KeepsOthers.of_grownBy (row := none) (grown_any1 HK3.out none) (fun j o e _ => by cases e))).trans (((KeepsOthers.setCell w3 ⟨w.heap.size + 1 + 1, 0, none⟩ (.string x.target)).trans (KeepsOthers.setCell _ ⟨w.heap.size + 1 + 1 + 1, 0, none⟩ (.int .i64 xr))).trans (KeepsOthers.setCell _ ⟨w.heap.size + 1 + 1 + 1 + 1, 0, none⟩ (.bool true))) |>.trans (KeepsOthers.of_grownBy (row := none) (grown_drew1N (grown_reflN _ none)) (fun j o e _ => by cases e))).from _, ⟨⟨?_, ?_, ?_⟩, ?_⟩, rfl, ?_⟩
                  · rw [hsn.out, tgtR_snoc, Int.toNat_natCast, ← XE.out]
                    exact y0
                  · rw [hsn.out, lastR'_snoc]
                    exact y1
                  · exact y2
                  · exact ((((HWB.out.trans (HBS3.out.mono HWB.out.size)).setCell (p := ⟨w.heap.size + 1 + 1, 0, none⟩) (by show w.heap.size ≤ w.heap.size + 1 + 1; omega) _).setCell (p := ⟨w.heap.size + 1 + 1 + 1, 0, none⟩) (by show w.heap.size ≤ w.heap.size + 1 + 1 + 1; omega) _).setCell (p := ⟨w.heap.size + 1 + 1 + 1 + 1, 0, none⟩) (by show w.heap.size ≤ w.heap.size + 1 + 1 + 1 + 1; omega) _).drew
                  · refine ⟨((t : Int), xr), by rw [hsn.out]; simp, ?_⟩
                    rw [Int.toNat_natCast, ← XE.out]
                    exact HQ.out
              · go_simp
                refine hK _ _ ?_
                clear hK K
                refine wpAnyIn_ready (rs := [5]) (by kernel_rfl) (by simp) (AllReadyIn.cons rfl (fun K hK => ?_) AllReadyIn.nil)
                go_simp
                refine hK _ _ ?_
                clear hK K
                refine wpAnyIn_ready (rs := [7]) (by kernel_rfl) (by simp) (AllReadyIn.cons rfl (fun K hK => ?_) AllReadyIn.nil)
                go_simp
                refine hK _ _ ?_
                clear hK K
                refine wpAnyIn_ready (rs := [8]) (by kernel_rfl) (by simp) (AllReadyIn.cons rfl (fun K hK => ?_) AllReadyIn.nil)
                go_simp
                refine hK _ _ ?_
                clear hK K
                refine wpAnyIn_ready (rs := [9]) (by kernel_rfl) (by simp) (AllReadyIn.cons rfl (fun K hK => ?_) AllReadyIn.nil)
                go_simp
                refine hK _ _ ?_
                clear hK K
                refine wpAnyIn_done (by kernel_rfl) ?_ _
                gi_wp2
                obtain ⟨y0, y1, y2⟩ := box3B B0.out B1.out B2.out (by omega) (by omega) (by omega) (.string x.target) (.int .i64 xr) (.bool true)
                refine ⟨((HKO.out.trans (KeepsOthers.of_grownBy (row := none) (grown_any1 HK3.out none) (fun j o e _ => by cases e))).trans (((KeepsOthers.setCell w3 ⟨w.heap.size + 1 + 1, 0, none⟩ (.string x.target)).trans (KeepsOthers.setCell _ ⟨w.heap.size + 1 + 1 + 1, 0, none⟩ (.int .i64 xr))).trans (KeepsOthers.setCell _ ⟨w.heap.size + 1 + 1 + 1 + 1, 0, none⟩ (.bool true))) |>.trans (KeepsOthers.of_grownBy (row := none) (grown_drew1N (grown_reflN _ none)) (fun j o e _ => by cases e))).from _, ⟨⟨?_, ?_, ?_⟩, ?_⟩, rfl, ?_⟩
                · rw [hsn.out, tgtR_snoc, Int.toNat_natCast, ← XE.out]
                  exact y0
                · rw [hsn.out, lastR'_snoc]
                  exact y1
                · exact y2
                · exact ((((HWB.out.trans (HBS3.out.mono HWB.out.size)).setCell (p := ⟨w.heap.size + 1 + 1, 0, none⟩) (by show w.heap.size ≤ w.heap.size + 1 + 1; omega) _).setCell (p := ⟨w.heap.size + 1 + 1 + 1, 0, none⟩) (by show w.heap.size ≤ w.heap.size + 1 + 1 + 1; omega) _).setCell (p := ⟨w.heap.size + 1 + 1 + 1 + 1, 0, none⟩) (by show w.heap.size ≤ w.heap.size + 1 + 1 + 1 + 1; omega) _).drew
                · refine ⟨((t : Int), xr), by rw [hsn.out]; simp, ?_⟩
                  rw [Int.toNat_natCast, ← XE.out]
                  exact HQ.out
            · go_simp
              refine hK _ _ ?_
              clear hK K
              refine wpAnyIn_ready (rs := [1]) (by kernel_rfl) (by simp) (AllReadyIn.cons rfl (fun K hK => ?_) AllReadyIn.nil)
              go_simp
              refine hK _ _ ?_
              clear hK K
              refine wpAnyIn_take (i := 3) (v := ?v13) rfl rfl (by kernel_rfl) (by kernel_rfl) (by kernel_rfl) (fun _ _ _ h => h) ⟨Or.inl ⟨by rfl, ?h13⟩, fun _ => rfl⟩ ?r13
              case h13 => ((intro w; go_simp) <;> with_reducible rfl)
              try simp only [Act.put, List.setIfInBounds_toArray, List.set_cons_zero, List.set_cons_succ]
              refine wpAnyIn_take (i := 4) (v := ?v14) rfl rfl (by kernel_rfl) (by kernel_rfl) (by kernel_rfl) (fun _ _ _ h => h) ⟨Or.inl ⟨by rfl, ?h14⟩, fun _ => rfl⟩ ?r14
              case h14 => ((intro w; go_simp) <;> with_reducible rfl)
              try simp only [Act.put, List.setIfInBounds_toArray, List.set_cons_zero, List.set_cons_succ]
              refine wpAnyIn_ready (rs := [5]) (by kernel_rfl) (by simp) (AllReadyIn.cons rfl (fun K hK => ?_) AllReadyIn.nil)
              go_simp
              refine hK _ _ ?_
              clear hK K
              refine wpAnyIn_ready (rs := [7]) (by kernel_rfl) (by simp) (AllReadyIn.cons rfl (fun K hK => ?_) AllReadyIn.nil)
              go_simp
              refine hK _ _ ?_
              clear hK K
              refine wpAnyIn_ready (rs := [8]) (by kernel_rfl) (by simp) (AllReadyIn.cons rfl (fun K hK => ?_) AllReadyIn.nil)
              go_simp
              refine hK _ _ ?_
              clear hK K
              refine wpAnyIn_ready (rs := [9]) (by kernel_rfl) (by simp) (AllReadyIn.cons rfl (fun K hK => ?_) AllReadyIn.nil)
              go_simp
              refine hK _ _ ?_
              clear hK K
              refine wpAnyIn_done (by kernel_rfl) ?_ _
              gi_wp2
              obtain ⟨y0, y1, y2⟩ := box3B B0.out B1.out B2.out (by omega) (by omega) (by omega) (.string x.target) (.int .i64 xr) (.bool true)
              refine ⟨((HKO.out.trans (KeepsOthers.of_grownBy (row := none) (grown_any1 HK3.out none) (fun j o e _ => by cases e))).trans (((KeepsOthers.setCell w3 ⟨w.heap.size + 1 + 1, 0, none⟩ (.string x.target)).trans (KeepsOthers.setCell _ ⟨w.heap.size + 1 + 1 + 1, 0, none⟩ (.int .i64 xr))).trans (KeepsOthers.setCell _ ⟨w.heap.size + 1 + 1 + 1 + 1, 0, none⟩ (.bool true))) |>.trans (KeepsOthers.of_grownBy (row := none) (grown_drew1N (grown_reflN _ none)) (fun j o e _ => by cases e))).from _, ⟨⟨?_, ?_, ?_⟩, ?_⟩, rfl, ?_⟩
              · rw [hsn.out, tgtR_snoc, Int.toNat_natCast, ← XE.out]
                exact y0
              · rw [hsn.out, lastR'_snoc]
                exact y1
              · exact y2
              · exact ((((HWB.out.trans (HBS3.out.mono HWB.out.size)).setCell (p := ⟨w.heap.size + 1 + 1, 0, none⟩) (by show w.heap.size ≤ w.heap.size + 1 + 1; omega) _).setCell (p := ⟨w.heap.size + 1 + 1 + 1, 0, none⟩) (by show w.heap.size ≤ w.heap.size + 1 + 1 + 1; omega) _).setCell (p := ⟨w.heap.size + 1 + 1 + 1 + 1, 0, none⟩) (by show w.heap.size ≤ w.heap.size + 1 + 1 + 1 + 1; omega) _).drew
              · refine ⟨((t : Int), xr), by rw [hsn.out]; simp, ?_⟩
                rw [Int.toNat_natCast, ← XE.out]
                exact HQ.out
          · go_simp
            refine hK _ _ ?_
            clear hK K
            refine wpAnyIn_ready (rs := [4]) (by kernel_rfl) (by simp) (AllReadyIn.cons rfl (fun K hK => ?_) AllReadyIn.nil)
            go_simp
            refine hK _ _ ?_
            clear hK K
            refine wpAnyIn_ready (rs := [6]) (by kernel_rfl) (by simp) (AllReadyIn.cons rfl (fun K hK => ?_) AllReadyIn.nil)
            go_simp
            refine ⟨trivial, ?_⟩
            refine (callsIn_wide.2 (HHAS.out _)).mono ?_
            rintro e w3 ⟨rfl, hb3⟩
            have HB3 := Lib.hid hb3
            clear hb3
            refine hK _ _ ?_
            clear hK K
            refine wpAnyIn_done (by kernel_rfl) ?_ _
            gi_wp2
            have hk3 := (Below.refl W1.heap.size W1).drew.trans HB3.out
            have HK3 := Lib.hid hk3
            have HBS3 := Lib.hid (HBS.out.trans (hk3.mono HBS.out.size))
            have t0 := (HBS3.out.cell (p := ⟨w.heap.size, 0, none⟩) hwl).trans S0.out.1
            have t2 := (hk3.cell (p := ⟨b, off + t * 4 + 2, none⟩) (Nat.lt_of_lt_of_le hb1l HBS.out.size)).trans x2
            have hbc3 := HBC.out.kept (grown_any1 hk3 none) (by simp)
            have tc := hbc3.cell
            have B0 := Lib.hid (BR1.out.1.kept (grown_any1 HBS3.out none) (by simp))
            have B1 := Lib.hid (BR1.out.2.1.kept (grown_any1 HBS3.out none) (by simp))
            have B2 := Lib.hid (BR1.out.2.2.kept (grown_any1 HBS3.out none) (by simp))
            have u0 := B0.out.cell
            have u1 := B1.out.cell
            have u2 := B2.out.cell
            have f0 := B0.out.frozen
            have f1 := B1.out.frozen
            have f2 := B2.out.frozen
            have n0 : ¬ w.heap.size + 1 + 1 = w1.heap.size := by omega
            have n1 : ¬ w1.heap.size = w.heap.size + 1 + 1 := by omega
            clear hbc3 hk3 s0 s1 sk x0 x1 x2 x3
            refine region_round (by kernel_rfl) (by kernel_rfl) ?_
            refine wpAnyIn_take (i := 0) (v := ?v15) rfl rfl (by kernel_rfl) (by kernel_rfl) (by kernel_rfl) (fun _ _ _ h => h) ⟨Or.inl ⟨by rfl, ?h15⟩, fun _ => rfl⟩ ?r15
            case h15 => ((intro w; go_simp) <;> with_reducible rfl)
            try simp only [Act.put, List.setIfInBounds_toArray, List.set_cons_zero, List.set_cons_succ]
            refine wpAnyIn_take (i := 2) (v := ?v16) rfl rfl (by kernel_rfl) (by kernel_rfl) (by kernel_rfl) (fun _ _ _ h => h) ⟨Or.inl ⟨by rfl, ?h16⟩, fun _ => rfl⟩ ?r16
            case h16 => ((intro w; go_simp) <;> with_reducible rfl)
            try simp only [Act.put, List.setIfInBounds_toArray, List.set_cons_zero, List.set_cons_succ]
            refine wpAnyIn_ready (rs := [1, 6]) (by kernel_rfl) (by simp) (AllReadyIn.cons rfl (fun K hK => ?_) (AllReadyIn.cons rfl (fun K hK => ?_) AllReadyIn.nil))
            · go_simp
              refine hK _ _ ?_
              clear hK K
              refine wpAnyIn_take (i := 3) (v := ?v17) rfl rfl (by kernel_rfl) (by kernel_rfl) (by kernel_rfl) (fun _ _ _ h => h) ⟨Or.inl ⟨by rfl, ?h17⟩, fun _ => rfl⟩ ?r17
              case h17 => ((intro w; go_simp) <;> with_reducible rfl)
              try simp only [Act.put, List.setIfInBounds_toArray, List.set_cons_zero, List.set_cons_succ]
              refine wpAnyIn_take (i := 4) (v := ?v18) rfl rfl (by kernel_rfl) (by kernel_rfl) (by kernel_rfl) (fun _ _ _ h => h) ⟨Or.inl ⟨by rfl, ?h18⟩, fun _ => rfl⟩ ?r18
              case h18 => ((intro w; go_simp) <;> with_reducible rfl)
              try simp only [Act.put, List.setIfInBounds_toArray, List.set_cons_zero, List.set_cons_succ]
              refine wpAnyIn_ready (rs := [5, 6]) (by kernel_rfl) (by simp) (AllReadyIn.cons rfl (fun K hK => ?_) (AllReadyIn.cons rfl (fun K hK => ?_) AllReadyIn.nil))
              · go_simp
                refine hK _ _ ?_
                clear hK K
                refine wpAnyIn_ready (rs := [6, 7]) (by kernel_rfl) (by simp) (AllReadyIn.cons rfl (fun K hK => ?_) (AllReadyIn.cons rfl (fun K hK => ?_) AllReadyIn.nil))
                · go_simp
                  refine hK _ _ ?_
                  clear hK K
                  refine wpAnyIn_ready (rs := [7]) (by kernel_rfl) (by simp) (AllReadyIn.cons rfl (fun K hK => ?_) AllReadyIn.nil)
                  go_simp
                  refine hK _ _ ?_
                  clear hK K
                  refine wpAnyIn_ready (rs := [8]) (by kernel_rfl) (by simp) (AllReadyIn.cons rfl (fun K hK => ?_) AllReadyIn.nil)
                  go_simp
                  refine hK _ _ ?_
                  clear hK K
                  refine wpAnyIn_ready (rs := [9]) (by kernel_rfl) (by simp) (AllReadyIn.cons rfl (fun K hK => ?_) AllReadyIn.nil)
                  go_simp
                  refine hK _ _ ?_
                  clear hK K
                  refine wpAnyIn_done (by kernel_rfl) ?_ _
                  gi_wp2
                  obtain ⟨y0, y1, y2⟩ := box3B B0.out B1.out B2.out (by omega) (by omega) (by omega) (.string x.target) (.int .i64 xr) (.bool true)
                  refine ⟨((HKO.out.trans (KeepsOthers.of_grownBy (row := none) (grown_any1 HK3.out none) (fun j o e _ => by cases e))).trans (((KeepsOthers.setCell w3 ⟨w.heap.size + 1 + 1, 0, none⟩ (.string x.target)).trans (KeepsOthers.setCell _ ⟨w.heap.size + 1 + 1 + 1, 0, none⟩ (.int .i64 xr))).trans (KeepsOthers.setCell _ ⟨w.heap.size + 1 + 1 + 1 + 1, 0, none⟩ (.bool true))) |>.trans (KeepsOthers.of_grownBy (row := none) (grown_drew1N (grown_reflN _ none)) (fun j o e _ => by cases e))).from _, ⟨⟨?_, ?_, ?_⟩, ?_⟩, rfl, ?_⟩
                  · rw [hsn.out, tgtR_snoc, Int.toNat_natCast, ← XE.out]
                    exact y0
                  · rw [hsn.out, lastR'_snoc]
                    exact y1
                  · exact y2
                  · exact ((((HWB.out.trans (HBS3.out.mono HWB.out.size)).setCell (p := ⟨w.heap.size + 1 + 1, 0, none⟩) (by show w.heap.size ≤ w.heap.size + 1 + 1; omega) _).setCell (p := ⟨w.heap.size + 1 + 1 + 1, 0, none⟩) (by show w.heap.size ≤ w.heap.size + 1 + 1 + 1; omega) _).setCell (p := ⟨w.heap.size + 1 + 1 + 1 + 1, 0, none⟩) (by show w.heap.size ≤ w.heap.size + 1 + 1 + 1 + 1; omega) _).drew
                  · refine ⟨((t : Int), xr), by rw [hsn.out]; simp, ?_⟩
                    rw [Int.toNat_natCast, ← XE.out]
                    exact HQ.out
                · go_simp
                  refine hK _ _ ?_
                  clear hK K
                  refine wpAnyIn_ready (rs := [6]) (by kernel_rfl) (by simp) (AllReadyIn.cons rfl (fun K hK => ?_) AllReadyIn.nil)
                  go_simp
                  refine hK _ _ ?_
                  clear hK K
                  refine wpAnyIn_ready (rs := [8]) (by kernel_rfl) (by simp) (AllReadyIn.cons rfl (fun K hK => ?_) AllReadyIn.nil)
                  go_simp
                  refine hK _ _ ?_
                  clear hK K
                  refine wpAnyIn_ready (rs := [9]) (by kernel_rfl) (by simp) (AllReadyIn.cons rfl (fun K hK => ?_) AllReadyIn.nil)
                  go_simp
                  refine hK _ _ ?_
                  clear hK K
                  refine wpAnyIn_done (by kernel_rfl) ?_ _
                  gi_wp2
                  obtain ⟨y0, y1, y2⟩ := box3B B0.out B1.out B2.out (by omega) (by omega) (by omega) (.string x.target) (.int .i64 xr) (.bool true)
                  refine ⟨((HKO.out.trans (KeepsOthers.of_grownBy (row := none) (grown_any1 HK3.out none) (fun j o e _ => by cases e))).trans (((KeepsOthers.setCell w3 ⟨w.heap.size + 1 + 1, 0, none⟩ (.string x.target)).trans (KeepsOthers.setCell _ ⟨w.heap.size + 1 + 1 + 1, 0, none⟩ (.int .i64 xr))).trans (KeepsOthers.setCell _ ⟨w.heap.size + 1 + 1 + 1 + 1, 0, none⟩ (.bool true))) |>.trans (KeepsOthers.of_grownBy (row := none) (grown_drew1N (grown_reflN _ none)) (fun j o e _ => by cases e))).from _, ⟨⟨?_, ?_, ?_⟩, ?_⟩, rfl, ?_⟩
                  · rw [hsn.out, tgtR_snoc, Int.toNat_natCast, ← XE.out]
                    exact y0
                  · rw [hsn.out, lastR'_snoc]
                    exact y1
                  · exact y2
                  · exact ((((HWB.out.trans (HBS3.out.mono HWB.out.size)).setCell (p := ⟨w.heap.size + 1 + 1, 0, none⟩) (by show w.heap.size ≤ w.heap.size + 1 + 1; omega) _).setCell (p := ⟨w.heap.size + 1 + 1 + 1, 0, none⟩) (by show w.heap.size ≤ w.heap.size + 1 + 1 + 1; omega) _).setCell (p := ⟨w.heap.size + 1 + 1 + 1 + 1, 0, none⟩) (by show w.heap.size ≤ w.heap.size + 1 + 1 + 1 + 1; omega) _).drew
                  · refine ⟨((t : Int), xr), by rw [hsn.out]; simp, ?_⟩
                    rw [Int.toNat_natCast, ← XE.out]
                    exact HQ.out
              · go_simp
                refine hK _ _ ?_
                clear hK K
                refine wpAnyIn_ready (rs := [5]) (by kernel_rfl) (by simp) (AllReadyIn.cons rfl (fun K hK => ?_) AllReadyIn.nil)
                go_simp
                refine hK _ _ ?_
                clear hK K
                refine wpAnyIn_ready (rs := [7]) (by kernel_rfl) (by simp) (AllReadyIn.cons rfl (fun K hK => ?_) AllReadyIn.nil)
                go_simp
                refine hK _ _ ?_
                clear hK K
                refine wpAnyIn_ready (rs := [8]) (by kernel_rfl) (by simp) (AllReadyIn.cons rfl (fun K hK => ?_) AllReadyIn.nil)
                go_simp
                refine hK _ _ ?_
                clear hK K
                refine wpAnyIn_ready (rs := [9]) (by kernel_rfl) (by simp) (AllReadyIn.cons rfl (fun K hK => ?_) AllReadyIn.nil)
                go_simp
                refine hK _ _ ?_
                clear hK K
                refine wpAnyIn_done (by kernel_rfl) ?_ _
                gi_wp2
                obtain ⟨y0, y1, y2⟩ := box3B B0.out B1.out B2.out (by omega) (by omega) (by omega) (.string x.target) (.int .i64 xr) (.bool true)
                refine ⟨((HKO.out.trans (KeepsOthers.of_grownBy (row := none) (grown_any1 HK3.out none) (fun j o e _ => by cases e))).trans (((KeepsOthers.setCell w3 ⟨w.heap.size + 1 + 1, 0, none⟩ (.string x.target)).trans (KeepsOthers.setCell _ ⟨w.heap.size + 1 + 1 + 1, 0, none⟩ (.int .i64 xr))).trans (KeepsOthers.setCell _ ⟨w.heap.size + 1 + 1 + 1 + 1, 0, none⟩ (.bool true))) |>.trans (KeepsOthers.of_grownBy (row := none) (grown_drew1N (grown_reflN _ none)) (fun j o e _ => by cases e))).from _, ⟨⟨?_, ?_, ?_⟩, ?_⟩, rfl, ?_⟩
                · rw [hsn.out, tgtR_snoc, Int.toNat_natCast, ← XE.out]
                  exact y0
                · rw [hsn.out, lastR'_snoc]
                  exact y1
                · exact y2
                · exact ((((HWB.out.trans (HBS3.out.mono HWB.out.size)).setCell (p := ⟨w.heap.size + 1 + 1, 0, none⟩) (by show w.heap.size ≤ w.heap.size + 1 + 1; omega) _).setCell (p := ⟨w.heap.size + 1 + 1 + 1, 0, none⟩) (by show w.heap.size ≤ w.heap.size + 1 + 1 + 1; omega) _).setCell (p := ⟨w.heap.size + 1 + 1 + 1 + 1, 0, none⟩) (by show w.heap.size ≤ w.heap.size + 1 + 1 + 1 + 1; omega) _).drew
                · refine ⟨((t : Int), xr), by rw [hsn.out]; simp, ?_⟩
                  rw [Int.toNat_natCast, ← XE.out]
                  exact HQ.out
            · go_simp
              refine hK _ _ ?_
              clear hK K
              refine wpAnyIn_ready (rs := [1]) (by kernel_rfl) (by simp) (AllReadyIn.cons rfl (fun K hK => ?_) AllReadyIn.nil)
              go_simp
              refine hK _ _ ?_
              clear hK K
              refine wpAnyIn_take (i := 3) (v := ?v19) rfl rfl (by kernel_rfl) (by kernel_rfl) (by kernel_rfl) (fun _ _ _ h => h) ⟨Or.inl ⟨by rfl, ?h19⟩, fun _ => rfl⟩ ?r19
              case h19 => ((intro w; go_simp) <;> with_reducible rfl)
              try simp only [Act.put, List.setIfInBounds_toArray, List.set_cons_zero, List.set_cons_succ]
              refine wpAnyIn_take (i := 4) (v := ?v20) rfl rfl (by kernel_rfl) (by kernel_rfl) (by kernel_rfl) (fun _ _ _ h => h) ⟨Or.inl ⟨by rfl, ?h20⟩, fun _ => rfl⟩ ?r20
              case h20 => ((intro w; go_simp) <;> with_reducible rfl)
              try simp only [Act.put, List.setIfInBounds_toArray, List.set_cons_zero, List.set_cons_succ]
              refine wpAnyIn_ready (rs := [5]) (by kernel_rfl) (by simp) (AllReadyIn.cons rfl (fun K hK => ?_) AllReadyIn.nil)
              go_simp
              refine hK _ _ ?_
              clear hK K
              refine wpAnyIn_ready (rs := [7]) (by kernel_rfl) (by simp) (AllReadyIn.cons rfl (fun K hK => ?_) AllReadyIn.nil)
              go_simp
              refine hK _ _ ?_
              clear hK K
              refine wpAnyIn_ready (rs := [8]) (by kernel_rfl) (by simp) (AllReadyIn.cons rfl (fun K hK => ?_) AllReadyIn.nil)
              go_simp
              refine hK _ _ ?_
              clear hK K
              refine wpAnyIn_ready (rs := [9]) (by kernel_rfl) (by simp) (AllReadyIn.cons rfl (fun K hK => ?_) AllReadyIn.nil)
              go_simp
              refine hK _ _ ?_
              clear hK K
              refine wpAnyIn_done (by kernel_rfl) ?_ _
              gi_wp2
              obtain ⟨y0, y1, y2⟩ := box3B B0.out B1.out B2.out (by omega) (by omega) (by omega) (.string x.target) (.int .i64 xr) (.bool true)
              refine ⟨((HKO.out.trans (KeepsOthers.of_grownBy (row := none) (grown_any1 HK3.out none) (fun j o e _ => by cases e))).trans (((KeepsOthers.setCell w3 ⟨w.heap.size + 1 + 1, 0, none⟩ (.string x.target)).trans (KeepsOthers.setCell _ ⟨w.heap.size + 1 + 1 + 1, 0, none⟩ (.int .i64 xr))).trans (KeepsOthers.setCell _ ⟨w.heap.size + 1 + 1 + 1 + 1, 0, none⟩ (.bool true))) |>.trans (KeepsOthers.of_grownBy (row := none) (grown_drew1N (grown_reflN _ none)) (fun j o e _ => by cases e))).from _, ⟨⟨?_, ?_, ?_⟩, ?_⟩, rfl, ?_⟩
              · rw [hsn.out, tgtR_snoc, Int.toNat_natCast, ← XE.out]
                exact y0
              · rw [hsn.out, lastR'_snoc]
                exact y1
              · exact y2
              · exact ((((HWB.out.trans (HBS3.out.mono HWB.out.size)).setCell (p := ⟨w.heap.size + 1 + 1, 0, none⟩) (by show w.heap.size ≤ w.heap.size + 1 + 1; omega) _).setCell (p := ⟨w.heap.size + 1 + 1 + 1, 0, none⟩) (by show w.heap.size ≤ w.heap.size + 1 + 1 + 1; omega) _).setCell (p := ⟨w.heap.size + 1 + 1 + 1 + 1, 0, none⟩) (by show w.heap.size ≤ w.heap.size + 1 + 1 + 1 + 1; omega) _).drew
              · refine ⟨((t : Int), xr), by rw [hsn.out]; simp, ?_⟩
                rw [Int.toNat_natCast, ← XE.out]
                exact HQ.out
        · go_simp
          refine hK _ _ ?_
          clear hK K
          refine wpAnyIn_ready (rs := [1]) (by kernel_rfl) (by simp) (AllReadyIn.cons rfl (fun K hK => ?_) AllReadyIn.nil)
          go_simp
          refine hK _ _ ?_
          clear hK K
          refine wpAnyIn_take (i := 3) (v := ?v8) rfl rfl (by kernel_rfl) (by kernel_rfl) (by kernel_rfl) (fun _ _ _ h => h) ⟨Or.inl ⟨by rfl, ?h8⟩, fun _ => rfl⟩ ?r8
          case h8 => ((intro w; go_simp) <;> with_reducible rfl)
          try simp only [Act.put, List.setIfInBounds_toArray, List.set_cons_zero, List.set_cons_succ]
          refine wpAnyIn_ready (rs := [4]) (by kernel_rfl) (by simp) (AllReadyIn.cons rfl (fun K hK => ?_) AllReadyIn.nil)
          go_simp
          refine hK _ _ ?_
          clear hK K
          refine wpAnyIn_ready (rs := [6]) (by kernel_rfl) (by simp) (AllReadyIn.cons rfl (fun K hK => ?_) AllReadyIn.nil)
          go_simp
          refine ⟨trivial, ?_⟩
          refine (callsIn_wide.2 (HHAS.out _)).mono ?_
          rintro e w3 ⟨rfl, hb3⟩
          have HB3 := Lib.hid hb3
          clear hb3
          refine hK _ _ ?_
          clear hK K
          refine wpAnyIn_done (by kernel_rfl) ?_ _
          gi_wp2
          have hk3 := (Below.refl W1.heap.size W1).drew.trans HB3.out
          have HK3 := Lib.hid hk3
          have HBS3 := Lib.hid (HBS.out.trans (hk3.mono HBS.out.size))
          have t0 := (HBS3.out.cell (p := ⟨w.heap.size, 0, none⟩) hwl).trans S0.out.1
          have t2 := (hk3.cell (p := ⟨b, off + t * 4 + 2, none⟩) (Nat.lt_of_lt_of_le hb1l HBS.out.size)).trans x2
          have hbc3 := HBC.out.kept (grown_any1 hk3 none) (by simp)
          have tc := hbc3.cell
          have B0 := Lib.hid (BR1.out.1.kept (grown_any1 HBS3.out none) (by simp))
          have B1 := Lib.hid (BR1.out.2.1.kept (grown_any1 HBS3.out none) (by simp))
          have B2 := Lib.hid (BR1.out.2.2.kept (grown_any1 HBS3.out none) (by simp))
          have u0 := B0.out.cell
          have u1 := B1.out.cell
          have u2 := B2.out.cell
          have f0 := B0.out.frozen
          have f1 := B1.out.frozen
          have f2 := B2.out.frozen
          have n0 : ¬ w.heap.size + 1 + 1 = w1.heap.size := by omega
          have n1 : ¬ w1.heap.size = w.heap.size + 1 + 1 := by omega
          clear hbc3 hk3 s0 s1 sk x0 x1 x2 x3
          refine region_round (by kernel_rfl) (by kernel_rfl) ?_
          refine wpAnyIn_take (i := 0) (v := ?v21) rfl rfl (by kernel_rfl) (by kernel_rfl) (by kernel_rfl) (fun _ _ _ h => h) ⟨Or.inl ⟨by rfl, ?h21⟩, fun _ => rfl⟩ ?r21
          case h21 => ((intro w; go_simp) <;> with_reducible rfl)
          try simp only [Act.put, List.setIfInBounds_toArray, List.set_cons_zero, List.set_cons_succ]
          refine wpAnyIn_take (i := 2) (v := ?v22) rfl rfl (by kernel_rfl) (by kernel_rfl) (by kernel_rfl) (fun _ _ _ h => h) ⟨Or.inl ⟨by rfl, ?h22⟩, fun _ => rfl⟩ ?r22
          case h22 => ((intro w; go_simp) <;> with_reducible rfl)
          try simp only [Act.put, List.setIfInBounds_toArray, List.set_cons_zero, List.set_cons_succ]
          refine wpAnyIn_ready (rs := [1, 6]) (by kernel_rfl) (by simp) (AllReadyIn.cons rfl (fun K hK => ?_) (AllReadyIn.cons rfl (fun K hK => ?_) AllReadyIn.nil))
          · go_simp
            refine hK _ _ ?_
            clear hK K
            refine wpAnyIn_take (i := 3) (v := ?v23) rfl rfl (by kernel_rfl) (by kernel_rfl) (by kernel_rfl) (fun _ _ _ h => h) ⟨Or.inl ⟨by rfl, ?h23⟩, fun _ => rfl⟩ ?r23
            case h23 => ((intro w; go_simp) <;> with_reducible rfl)
            try simp only [Act.put, List.setIfInBounds_toArray, List.set_cons_zero, List.set_cons_succ]
            refine wpAnyIn_take (i := 4) (v := ?v24) rfl rfl (by kernel_rfl) (by kernel_rfl) (by kernel_rfl) (fun _ _ _ h => h) ⟨Or.inl ⟨by rfl, ?h24⟩, fun _ => rfl⟩ ?r24
            case h24 => ((intro w; go_simp) <;> with_reducible rfl)
            try simp only [Act.put, List.setIfInBounds_toArray, List.set_cons_zero, List.set_cons_succ]
            refine wpAnyIn_ready (rs := [5, 6]) (by kernel_rfl) (by simp) (AllReadyIn.cons rfl (fun K hK => ?_) (AllReadyIn.cons rfl (fun K hK => ?_) AllReadyIn.nil))
            · go_simp
              refine hK _ _ ?_
              clear hK K
              refine wpAnyIn_ready (rs := [6, 7]) (by kernel_rfl) (by simp) (AllReadyIn.cons rfl (fun K hK => ?_) (AllReadyIn.cons rfl (fun K hK => ?_) AllReadyIn.nil))
              · go_simp
                refine hK _ _ ?_
                clear hK K
                refine wpAnyIn_ready (rs := [7]) (by kernel_rfl) (by simp) (AllReadyIn.cons rfl (fun K hK => ?_) AllReadyIn.nil)
                go_simp
                refine hK _ _ ?_
                clear hK K
                refine wpAnyIn_ready (rs := [8]) (by kernel_rfl) (by simp) (AllReadyIn.cons rfl (fun K hK => ?_) AllReadyIn.nil)
                go_simp
                refine hK _ _ ?_
                clear hK K
                refine wpAnyIn_ready (rs := [9]) (by kernel_rfl) (by simp) (AllReadyIn.cons rfl (fun K hK => ?_) AllReadyIn.nil)
                go_simp
                refine hK _ _ ?_
                clear hK K
                refine wpAnyIn_done (by kernel_rfl) ?_ _
                gi_wp2
                obtain ⟨y0, y1, y2⟩ := box3B B0.out B1.out B2.out (by omega) (by omega) (by omega) (.string x.target) (.int .i64 xr) (.bool true)
                refine ⟨((HKO.out.trans (KeepsOthers.of_grownBy (row := none) (grown_any1 HK3.out none) (fun j o e _ => by cases e))).trans (((KeepsOthers.setCell w3 ⟨w.heap.size + 1 + 1, 0, none⟩ (.string x.target)).trans (KeepsOthers.setCell _ ⟨w.heap.size + 1 + 1 + 1, 0, none⟩ (.int .i64 xr))).trans (KeepsOthers.setCell _ ⟨w.heap.size + 1 + 1 + 1 + 1, 0, none⟩ (.bool true))) |>.trans (KeepsOthers.of_grownBy (row := none) (grown_drew1N (grown_reflN _ none)) (fun j o e _ => by cases e))).from _, ⟨⟨?_, ?_, ?_⟩, ?_⟩, rfl, ?_⟩
                · rw [hsn.out, tgtR_snoc, Int.toNat_natCast, ← XE.out]
                  exact y0
                · rw [hsn.out, lastR'_snoc]
                  exact y1
                · exact y2
                · exact ((((HWB.out.trans (HBS3.out.mono HWB.out.size)).setCell (p := ⟨w.heap.size + 1 + 1, 0, none⟩) (by show w.heap.size ≤ w.heap.size + 1 + 1; omega) _).setCell (p := ⟨w.heap.size + 1 + 1 + 1, 0, none⟩) (by show w.heap.size ≤ w.heap.size + 1 + 1 + 1; omega) _).setCell (p := ⟨w.heap.size + 1 + 1 + 1 + 1, 0, none⟩) (by show w.heap.size ≤ w.heap.size + 1 + 1 + 1 + 1; omega) _).drew
                · refine ⟨((t : Int), xr), by rw [hsn.out]; simp, ?_⟩
                  rw [Int.toNat_natCast, ← XE.out]
                  exact HQ.out
              · go_simp
                refine hK _ _ ?_
                clear hK K
                refine wpAnyIn_ready (rs := [6]) (by kernel_rfl) (by simp) (AllReadyIn.cons rfl (fun K hK => ?_) AllReadyIn.nil)
                go_simp
                refine hK _ _ ?_
                clear hK K
                refine wpAnyIn_ready (rs := [8]) (by kernel_rfl) (by simp) (AllReadyIn.cons rfl (fun K hK => ?_) AllReadyIn.nil)
                go_simp
                refine hK _ _ ?_
                clear hK K
                refine wpAnyIn_ready (rs := [9]) (by kernel_rfl) (by simp) (AllReadyIn.cons rfl (fun K hK => ?_) AllReadyIn.nil)
                go_simp
                refine hK _ _ ?_
                clear hK K
                refine wpAnyIn_done (by kernel_rfl) ?_ _
                gi_wp2
                obtain ⟨y0, y1, y2⟩ := box3B B0.out B1.out B2.out (by omega) (by omega) (by omega) (.string x.target) (.int .i64 xr) (.bool true)
                refine ⟨((HKO.out.trans (KeepsOthers.of_grownBy (row := none) (grown_any1 HK3.out none) (fun j o e _ => by cases e))).trans (((KeepsOthers.setCell w3 ⟨w.heap.size + 1 + 1, 0, none⟩ (.string x.target)).trans (KeepsOthers.setCell _ ⟨w.heap.size + 1 + 1 + 1, 0, none⟩ (.int .i64 xr))).trans (KeepsOthers.setCell _ ⟨w.heap.size + 1 + 1 + 1 + 1, 0, none⟩ (.bool true))) |>.trans (KeepsOthers.of_grownBy (row := none) (grown_drew1N (grown_reflN _ none)) (fun j o e _ => by cases e))).from _, ⟨⟨?_, ?_, ?_⟩, ?_⟩, rfl, ?_⟩
                · rw [hsn.out, tgtR_snoc, Int.toNat_natCast, ← XE.out]
                  exact y0
                · rw [hsn.out, lastR'_snoc]
                  exact y1
                · exact y2
                · exact ((((HWB.out.trans (HBS3.out.mono HWB.out.size)).setCell (p := ⟨w.heap.size + 1 + 1, 0, none⟩) (by show w.heap.size ≤ w.heap.size + 1 + 1; omega) _).setCell (p := ⟨w.heap.size + 1 + 1 + 1, 0, none⟩) (by show w.heap.size ≤ w.heap.size + 1 + 1 + 1; omega) _).setCell (p := ⟨w.heap.size + 1 + 1 + 1 + 1, 0, none⟩) (by show w.heap.size ≤ w.heap.size + 1 + 1 + 1 + 1; omega) _).drew
                · refine ⟨((t : Int), xr), by rw [hsn.out]; simp, ?_⟩
                  rw [Int.toNat_natCast, ← XE.out]
                  exact HQ.out
            · go_simp
              refine hK _ _ ?_
              clear hK K
              refine wpAnyIn_ready (rs := [5]) (by kernel_rfl) (by simp) (AllReadyIn.cons rfl (fun K hK => ?_) AllReadyIn.nil)
              go_simp
              refine hK _ _ ?_
              clear hK K
              refine wpAnyIn_ready (rs := [7]) (by kernel_rfl) (by simp) (AllReadyIn.cons rfl (fun K hK => ?_) AllReadyIn.nil)
              go_simp
              refine hK _ _ ?_
              clear hK K
              refine wpAnyIn_ready (rs := [8]) (by kernel_rfl) (by simp) (AllReadyIn.cons rfl (fun K hK => ?_) AllReadyIn.nil)
              go_simp
              refine hK _ _ ?_
              clear hK K
              refine wpAnyIn_ready (rs := [9]) (by kernel_rfl) (by simp) (AllReadyIn.cons rfl (fun K hK => ?_) AllReadyIn.nil)
              go_simp
              refine hK _ _ ?_
              clear hK K
              refine wpAnyIn_done (by kernel_rfl) ?_ _
              gi_wp2
              obtain ⟨y0, y1, y2⟩ := box3B B0.out B1.out B2.out (by omega) (by omega) (by omega) (.string x.target) (.int .i64 xr) (.bool true)
              refine ⟨((HKO.out.trans (KeepsOthers.of_grownBy (row := none) (grown_any1 HK3.out none) (fun j o e _ => by cases e))).trans (((KeepsOthers.setCell w3 ⟨w.heap.size + 1 + 1, 0, none⟩ (.string x.target)).trans (KeepsOthers.setCell _ ⟨w.heap.size + 1 + 1 + 1, 0, none⟩ (.int .i64 xr))).trans (KeepsOthers.setCell _ ⟨w.heap.size + 1 + 1 + 1 + 1, 0, none⟩ (.bool true))) |>.trans (KeepsOthers.of_grownBy (row := none) (grown_drew1N (grown_reflN _ none)) (fun j o e _ => by cases e))).from _, ⟨⟨?_, ?_, ?_⟩, ?_⟩, rfl, ?_⟩
              · rw [hsn.out, tgtR_snoc, Int.toNat_natCast, ← XE.out]
                exact y0
              · rw [hsn.out, lastR'_snoc]
                exact y1
              · exact y2
              · exact ((((HWB.out.trans (HBS3.out.mono HWB.out.size)).setCell (p := ⟨w.heap.size + 1 + 1, 0, none⟩) (by show w.heap.size ≤ w.heap.size + 1 + 1; omega) _).setCell (p := ⟨w.heap.size + 1 + 1 + 1, 0, none⟩) (by show w.heap.size ≤ w.heap.size + 1 + 1 + 1; omega) _).setCell (p := ⟨w.heap.size + 1 + 1 + 1 + 1, 0, none⟩) (by show w.heap.size ≤ w.heap.size + 1 + 1 + 1 + 1; omega) _).drew
              · refine ⟨((t : Int), xr), by rw [hsn.out]; simp, ?_⟩
                rw [Int.toNat_natCast, ← XE.out]
                exact HQ.out
          · go_simp
            refine hK _ _ ?_
            clear hK K
            refine wpAnyIn_ready (rs := [1]) (by kernel_rfl) (by simp) (AllReadyIn.cons rfl (fun K hK => ?_) AllReadyIn.nil)
            go_simp
            refine hK _ _ ?_
            clear hK K
            refine wpAnyIn_take (i := 3) (v := ?v25) rfl rfl (by kernel_rfl) (by kernel_rfl) (by kernel_rfl) (fun _ _ _ h => h) ⟨Or.inl ⟨by rfl, ?h25⟩, fun _ => rfl⟩ ?r25
            case h25 => ((intro w; go_simp) <;> with_reducible rfl)
            try simp only [Act.put, List.setIfInBounds_toArray, List.set_cons_zero, List.set_cons_succ]
            refine wpAnyIn_take (i := 4) (v := ?v26) rfl rfl (by kernel_rfl) (by kernel_rfl) (by kernel_rfl) (fun _ _ _ h => h) ⟨Or.inl ⟨by rfl, ?h26⟩, fun _ => rfl⟩ ?r26
            case h26 => ((intro w; go_simp) <;> with_reducible rfl)
            try simp only [Act.put, List.setIfInBounds_toArray, List.set_cons_zero, List.set_cons_succ]
            refine wpAnyIn_ready (rs := [5]) (by kernel_rfl) (by simp) (AllReadyIn.cons rfl (fun K hK => ?_) AllReadyIn.nil)
            go_simp
            refine hK _ _ ?_
            clear hK K
            refine wpAnyIn_ready (rs := [7]) (by kernel_rfl) (by simp) (AllReadyIn.cons rfl (fun K hK => ?_) AllReadyIn.nil)
            go_simp
            refine hK _ _ ?_
            clear hK K
            refine wpAnyIn_ready (rs := [8]) (by kernel_rfl) (by simp) (AllReadyIn.cons rfl (fun K hK => ?_) AllReadyIn.nil)
            go_simp
            refine hK _ _ ?_
            clear hK K
            refine wpAnyIn_ready (rs := [9]) (by kernel_rfl) (by simp) (AllReadyIn.cons rfl (fun K hK => ?_) AllReadyIn.nil)
            go_simp
            refine hK _ _ ?_
            clear hK K
            refine wpAnyIn_done (by kernel_rfl) ?_ _
            gi_wp2
            obtain ⟨y0, y1, y2⟩ := box3B B0.out B1.out B2.out (by omega) (by omega) (by omega) (.string x.target) (.int .i64 xr) (.bool true)
            refine ⟨((HKO.out.trans (KeepsOthers.of_grownBy (row := none) (grown_any1 HK3.out none) (fun j o e _ => by cases e))).trans (((KeepsOthers.setCell w3 ⟨w.heap.size + 1 + 1, 0, none⟩ (.string x.target)).trans (KeepsOthers.setCell _ ⟨w.heap.size + 1 + 1 + 1, 0, none⟩ (.int .i64 xr))).trans (KeepsOthers.setCell _ ⟨w.heap.size + 1 + 1 + 1 + 1, 0, none⟩ (.bool true))) |>.trans (KeepsOthers.of_grownBy (row := none) (grown_drew1N (grown_reflN _ none)) (fun j o e _ => by cases e))).from _, ⟨⟨?_, ?_, ?_⟩, ?_⟩, rfl, ?_⟩
            · rw [hsn.out, tgtR_snoc, Int.toNat_natCast, ← XE.out]
              exact y0
            · rw [hsn.out, lastR'_snoc]
              exact y1
            · exact y2
            · exact ((((HWB.out.trans (HBS3.out.mono HWB.out.size)).setCell (p := ⟨w.heap.size + 1 + 1, 0, none⟩) (by show w.heap.size ≤ w.heap.size + 1 + 1; omega) _).setCell (p := ⟨w.heap.size + 1 + 1 + 1, 0, none⟩) (by show w.heap.size ≤ w.heap.size + 1 + 1 + 1; omega) _).setCell (p := ⟨w.heap.size + 1 + 1 + 1 + 1, 0, none⟩) (by show w.heap.size ≤ w.heap.size + 1 + 1 + 1 + 1; omega) _).drew
            · refine ⟨((t : Int), xr), by rw [hsn.out]; simp, ?_⟩
              rw [Int.toNat_natCast, ← XE.out]
              exact HQ.out

    case done =>
      rintro D ys W hD hvs ⟨⟨bC1, hB1⟩, hno⟩ hK
      have hB0 := BR1.out.1.kept (grown_any1 hB1 none) (by simp)
      have hB1' := BR1.out.2.1.kept (grown_any1 hB1 none) (by simp)
      have hB2 := BR1.out.2.2.kept (grown_any1 hB1 none) (by simp)
      have hcC := bC1.cell
      have e2 : lastR' (valR ys) = rsum d o o.size := by rw [hvs, lastR'_reach]
      rw [e2] at hcC bC1
      have hrun := run_none (key := key) HORD.out (fun j hj => by
        have := hno (o[j]!, rsum d o (j + 1)) (by rw [hvs]; exact List.mem_map.2 ⟨j, List.mem_range.2 hj, rfl⟩)
        exact this)
      have hrb : runB d rest o key = true := by rw [runB, HS.out, HKB.out]; rfl
      have HRT := Lib.hid (show runTN d rest o key = zS by rw [runTN, if_pos hrb]; exact hrun.1)
      have HRC := Lib.hid (show runCN d rest o key = rsum d o o.size by rw [runCN, if_pos hrb]; exact hrun.2)
      have HRB := Lib.hid hrb
      obtain ⟨R, hR⟩ : ∃ R, R = rsum d o o.size := ⟨_, rfl⟩
      rw [← hR] at HRC hcC bC1
      have HTX := Lib.hid (fun W => text_any W)
      have HWW := Lib.hid hB1
      have HDl := Lib.hid (Array.getElem?_eq_some_iff.1 hK).1
      have HKD := Lib.hid hK
      have Q0 := Lib.hid hB0
      have Q1 := Lib.hid hB1'
      have Q2 := Lib.hid hB2
      have QC := Lib.hid bC1
      have hXl := bC1.lt
      have n0 : ¬ w.heap.size + 1 + 1 = w1.heap.size := by omega
      have n1 : ¬ w1.heap.size = w.heap.size + 1 + 1 := by omega
      clear e2 hrun hrb hR hvs hno hB0 hB1' hB2 bC1 hB1 hK
      gi_wp2_with fail
      refine wpIn_wide.2 ?_
      go_region_with (go_at_call 52; refine (HTX.out _).mono ?_; rintro y w2 ⟨rfl, hb2⟩; have hk2 := (Below.refl W.heap.size W).drew.trans hb2; have HK2 := Lib.hid hk2; have hc2 := (hk2.cell (p := ⟨w1.heap.size, 0, none⟩) hXl).trans hcC; have P0 := Lib.hid (Q0.out.kept (grown_any1 hk2 none) (by simp)); have P1 := Lib.hid (Q1.out.kept (grown_any1 hk2 none) (by simp)); have P2 := Lib.hid (Q2.out.kept (grown_any1 hk2 none) (by simp)); have u0 := P0.out.cell; have u1 := P1.out.cell; have u2 := P2.out.cell; have f0 := P0.out.frozen; have f1 := P1.out.frozen; have f2 := P2.out.frozen; clear hb2 hk2)
      all_goals
        gi_wp2
        obtain ⟨y0, y1, y2⟩ := box3B P0.out P1.out P2.out (by omega) (by omega) (by omega) (.string zS) (.int .i64 R) (.bool true)
        have hbv := (((HWB.out.trans ((HWW.out.trans (HK2.out.mono HWW.out.size)).mono HWB.out.size)).setCell (p := ⟨w.heap.size + 1 + 1, 0, none⟩) (by show w.heap.size ≤ w.heap.size + 1 + 1; omega) (.string zS)).setCell (p := ⟨w.heap.size + 1 + 1 + 1, 0, none⟩) (by show w.heap.size ≤ w.heap.size + 1 + 1 + 1; omega) (.int .i64 R)).setCell (p := ⟨w.heap.size + 1 + 1 + 1 + 1, 0, none⟩) (by show w.heap.size ≤ w.heap.size + 1 + 1 + 1 + 1; omega) (.bool true)
        have hkv : (((w2.setCell ⟨w.heap.size + 1 + 1, 0, none⟩ (.string zS)).setCell ⟨w.heap.size + 1 + 1 + 1, 0, none⟩ (.int .i64 R)).setCell ⟨w.heap.size + 1 + 1 + 1 + 1, 0, none⟩ (.bool true)).heap[D]? = some (.deferred (some [])) := by
          have hDl : w1.heap.size < D := by omega
          rw [Below.heap_setCell _ _ _ _ (by show D ≠ w.heap.size + 1 + 1 + 1 + 1; omega), Below.heap_setCell _ _ _ _ (by show D ≠ w.heap.size + 1 + 1 + 1; omega), Below.heap_setCell _ _ _ _ (by show D ≠ w.heap.size + 1 + 1; omega), HK2.out.block D HDl.out]
          exact HKD.out
        generalize ((w2.setCell ⟨w.heap.size + 1 + 1, 0, none⟩ (.string zS)).setCell ⟨w.heap.size + 1 + 1 + 1, 0, none⟩ (.int .i64 R)).setCell ⟨w.heap.size + 1 + 1 + 1 + 1, 0, none⟩ (.bool true) = V at y0 y1 y2 hbv hkv ⊢
        refine ⟨by simp, .inl ⟨_, _, rfl, run_takeDeferred hkv, ?_⟩⟩
        have p0 := (y0.kept (grownBy_putObj' V D (.deferred none)) (by simp; omega)).cell
        have p1 := (y1.kept (grownBy_putObj' V D (.deferred none)) (by simp; omega)).cell
        have p2 := (y2.kept (grownBy_putObj' V D (.deferred none)) (by simp; omega)).cell
        refine ⟨.tuple #[.string zS, .int .i64 R, .bool true], by simp [results, Tryd.results28, go_sem, p0, p1, p2], ret3 HRT.out.symm HRC.out.symm HRB.out.symm, hbv.trans (belowK_b (w := W0) (by have := HB10.out.size; omega) V D _ _ (by omega) hkv rfl rfl)⟩
    case stop =>
      rintro D c pre W hD hpre ⟨⟨⟨hb0, hb1, hb2⟩, hB1⟩, rfl, hlast⟩ hK
      gi_wp2
      refine ⟨by simp, .inl ⟨_, _, rfl, run_takeDeferred hK, ?_⟩⟩
      have p0 := (hb0.kept (grownBy_putObj' W D (.deferred none)) (by simp; have := HB10.out.size; omega)).cell
      have p1 := (hb1.kept (grownBy_putObj' W D (.deferred none)) (by simp; have := HB10.out.size; omega)).cell
      have p2 := (hb2.kept (grownBy_putObj' W D (.deferred none)) (by simp; have := HB10.out.size; omega)).cell
      refine ⟨.tuple #[.string (tgtR d (valR pre)), .int .i64 (lastR' (valR pre)), .bool true], by simp [results, Tryd.results28, go_sem, p0, p1, p2], ?_, hB1.trans (belowK_b (w := W0) (by have := HB10.out.size; omega) W D _ _ (by omega) hK rfl rfl)⟩
      obtain ⟨k, hk, hpk⟩ := hpre
      obtain ⟨p, hp, hph⟩ := hlast
      have hrb : runB d rest o key = true := by rw [runB, HS.out, HKB.out]; rfl
      rw [hpk] at hp ⊢
      match k, hk, hp with
      | 0, _, hp => exact absurd hp (by simp [reachL])
      | j + 1, hk, hp =>
        rw [reachL_succ] at hp ⊢
        rw [List.getLast?_append, List.getLast?_singleton] at hp
        simp only [Option.some_or, Option.some.injEq] at hp
        subst hp
        have hrun := run_stop (rest := rest) HOK.out HORD.out (j := j) (by omega) hph
        refine ret3 ?_ ?_ hrb.symm
        · rw [runTN, if_pos hrb, hrun.1, tgtR_snoc]
          rfl
        · rw [runCN, if_pos hrb, hrun.2, lastR'_snoc]
end Go.Proofs.YtjmfcnblkojejaaDoor

namespace Go.Proofs.YtjmfcnblkojejaaDoor
open Go.RowKit Go.Shelf Go.Lib Go.Sort

set_option maxRecDepth 100000 in
set_option maxHeartbeats 1000000 in
theorem specRun_any (b off cap : Nat) (d : Array CaseD) (rest key : Int) (bo co : Nat) (o : Array Int) (w : World) (hR : RowC w b off d) (hcap : d.size ≤ cap) (hmax : cap ≤ maxLen) (hO : RowN w bo 0 o) (ho : o.size ≤ 1048576) :
    Calls Tryd.prog 29 #[.agg #[.slice (some ⟨b, off, none⟩) d.size cap, .int .i64 rest], .slice (some ⟨bo, 0, none⟩) o.size co, .int .i64 key] w fun x w' => x = .returned (.tuple #[.string (runTN d rest o key), .int .i64 (runCN d rest o key), .bool (runB d rest o key)]) ∧ RowKit.Below w.heap.size w w' := by
  have hv := fun W (hW : RowKit.Below w.heap.size w W) => specOrder_any b off cap d rest bo co o W (hR.below hW) hcap hmax (hO.below hW) ho
  have hk := fun W (hW : RowKit.Below w.heap.size w W) (h1 : SwOK d rest) (h2 : OrdOK d.size o) => l3Reach_any b off cap d rest bo co o W (hR.below hW) h1 (hO.below hW) h2
  have ha := fun W (hW : RowKit.Below w.heap.size w W) hn => l1At_any b off cap d rest key W (hR.below hW) hn
  have HK := Lib.hid hk
  have HAT := Lib.hid ha
  have HR := Lib.hid hR
  obtain ⟨wa, hwa⟩ : ∃ wa, wa = w.alloc (.cells #[.slice (some ⟨b, off, none⟩) d.size cap, .int .i64 rest] 25) := ⟨_, rfl⟩
  have c0 : wa.cell? ⟨w.heap.size, 0, none⟩ = some (.slice (some ⟨b, off, none⟩) d.size cap) := by rw [hwa]; simp
  have c1 : wa.cell? ⟨w.heap.size, 1, none⟩ = some (.int .i64 rest) := by rw [hwa]; simp
  have hz : w.heap.size < wa.heap.size := by rw [hwa]; simp
  have hba : RowKit.Below w.heap.size w wa := by rw [hwa]; exact (Below.refl _ _).alloc (Nat.le_refl _) _
  have HA := Lib.hid hba
  have C0 := Lib.hid c0
  have C1 := Lib.hid c1
  have HWA := Lib.hid hwa
  clear hba c0 c1 hwa hR hO hk ha
  have hvv := hv
  cases hs : ordS d rest o <;> cases hkb : keyB key
  all_goals
    have hki := fun W => l1Key_any key W
    simp only [hs] at hvv
    simp only [hkb] at hki
    have HV := Lib.hid hvv
    have HKI := Lib.hid hki
    have HS := Lib.hid hs
    have HKB := Lib.hid hkb
    clear hv hvv hs hki hkb
    go_enter Tryd.func29, Tryd.ntmps29
    go_wp2_with fail
    rw [← HWA.out]
    refine (HV.out _ HA.out).mono ?_
    rintro x w1 ⟨rfl, hb⟩
    have HB := Lib.hid hb
    have hz1 := hb.size
    have a0 := (hb.cell (p := ⟨w.heap.size, 0, none⟩) hz).trans C0.out
    have a1 := (hb.cell (p := ⟨w.heap.size, 1, none⟩) hz).trans C1.out
    have HWB := Lib.hid (HA.out.trans (HB.out.mono (by omega)))
    have hz1' : w.heap.size < w1.heap.size := by omega
    clear hb
    go_wp2_with (go_at_call 73; refine (HKI.out _).mono ?_; rintro y w2 ⟨rfl, rfl⟩)
  iterate 2
    · have HRB := Lib.hid (show runB d rest o key = false by rw [runB, HS.out]; rfl)
      go_ret3
      exact ⟨ret3 (runTN_no HRB.out).symm (runCN_no HRB.out).symm HRB.out.symm, HWB.out⟩
  · have HRB := Lib.hid (show runB d rest o key = false by rw [runB, HKB.out, Bool.and_false])
    go_ret3
    exact ⟨ret3 (runTN_no HRB.out).symm (runCN_no HRB.out).symm HRB.out.symm, HWB.out⟩
  · obtain ⟨hok, hord⟩ := ordS_on HS.out
    have hrb : runB d rest o key = true := by rw [runB, HS.out, HKB.out]; rfl
    have HRT := Lib.hid (show runTN d rest o key = runT d key by rw [runTN, if_pos hrb])
    have HRC := Lib.hid (show runCN d rest o key = runC d o key by rw [runCN, if_pos hrb])
    have HRB := Lib.hid hrb
    have HOK := Lib.hid hok
    have HORD := Lib.hid hord
    have h8d : (d.size : Int) ≤ 8 := by have := hok.size; omega
    refine (HK.out _ HWB.out hok hord).mono ?_
    rintro x w2 ⟨g, rfl, hg, hbx, hb2⟩
    have HX := Lib.hid hbx
    have HB2 := Lib.hid (HWB.out.trans (hb2.mono HWB.out.size))
    have a0 := (hb2.cell (p := ⟨w.heap.size, 0, none⟩) hz1').trans a0
    have a1 := (hb2.cell (p := ⟨w.heap.size, 1, none⟩) hz1').trans a1
    have hz2 := hb2.size
    have hz2' : w.heap.size < w2.heap.size := by omega
    have hla := HAT.out _ HB2.out hok.size
    rcases atN_cases d key with ⟨k, hkd, hat, _⟩ | ⟨hat, _⟩
    · rw [hat] at hla
      have HLA := Lib.hid hla
      have HT1 := Lib.hid (show runT d key = d[k]!.target by rw [runT, hat, if_pos (by omega), Int.toNat_natCast])
      have HC1 := Lib.hid (show runC d o key = (reachA d o)[k]! by rw [runC, hat, if_pos (by omega), Int.toNat_natCast])
      have hko : k < (reachA d o).size := by rw [reachA_size, hord.1]; exact hkd
      have HKO := Lib.hid hko
      have hki : (k : Int) < (o.size : Int) := by rw [hord.1]; omega
      clear hla hok hord hbx hb2 hrb hat hko
      go_wp2_with fail
      refine HLA.out.mono ?_
      rintro x w3 ⟨rfl, hb3⟩
      have HB3 := Lib.hid (HB2.out.trans (hb3.mono HB2.out.size))
      have a0 := (hb3.cell (p := ⟨w.heap.size, 0, none⟩) hz2').trans a0
      have a1 := (hb3.cell (p := ⟨w.heap.size, 1, none⟩) hz2').trans a1
      have x2 := (HR.out.below HB3.out).target k hkd
      have y0 := (hb3.cell (p := ⟨g, 0 + k, none⟩) HX.out.lt).trans (HX.out.row.cell k HKO.out)
      simp only [Nat.zero_add] at y0
      clear hb3
      obtain ⟨tg, htg⟩ : ∃ tg, tg = d[k]!.target := ⟨_, rfl⟩
      obtain ⟨rc, hrc⟩ : ∃ rc, rc = (reachA d o)[k]! := ⟨_, rfl⟩
      rw [← htg] at x2 HT1
      rw [← hrc] at y0 HC1
      clear htg hrc
      have hkd' : (k : Int) < (d.size : Int) := by omega
      go_wp2_with fail
      go_region
      all_goals
        go_wp2
        go_ret3
        exact ⟨ret3 (HRT.out.trans HT1.out).symm (HRC.out.trans HC1.out).symm HRB.out.symm, HB3.out.drew⟩
    · rw [hat] at hla
      have HLA := Lib.hid hla
      have HT1 := Lib.hid (show runT d key = zS by rw [runT, hat, if_neg (by omega)])
      have HC1 := Lib.hid (show runC d o key = rsum d o o.size by rw [runC, hat, if_neg (by omega)])
      clear hla hok hord hbx hb2 hrb hat
      go_wp2_with fail
      refine HLA.out.mono ?_
      rintro x w3 ⟨rfl, hb3⟩
      have HB3 := Lib.hid (HB2.out.trans (hb3.mono HB2.out.size))
      clear hb3
      go_wp2
      go_ret3
      exact ⟨ret3 (HRT.out.trans HT1.out).symm (HRC.out.trans HC1.out).symm HRB.out.symm, HB3.out⟩
end Go.Proofs.YtjmfcnblkojejaaDoor

namespace Go.Proofs.YtjmfcnblkojejaaDoor
open Go.RowKit Go.Shelf Go.Lib Go.Sort

theorem rsum_sum (d : Array CaseD) (o : Array Int) : ∀ k, rsum d o k = sumF (fun j => tcost (caseAt d o j)) k
  | 0 => rfl
  | k + 1 => by rw [rsum, sumF, rsum_sum d o k]
/-- What the tests of the first cases cost. -/
def testsT (d : Array CaseD) (k : Nat) : Int := sumF (fun i => tcost d[i]!) k
theorem testsT_le (d : Array CaseD) (k : Nat) : 0 ≤ testsT d k ∧ testsT d k ≤ 2 * (k : Int) :=
  sumF_le (c := 2) (by omega) (n := k) (fun j _ => by have := tcost_bounds d[j]!; omega) k (Nat.le_refl _)
theorem tests_all {d : Array CaseD} {o : Array Int} (h : OrdOK d.size o) : rsum d o o.size = testsT d d.size := by
  have hs := sumL_perm ((ord_perm h).map fun i : Int => tcost d[i.toNat]!)
  have e1 : (upTo d.size).toList.map (fun i : Int => tcost d[i.toNat]!) = (List.range d.size).map fun i => tcost d[i]! := by
    simp only [upTo, List.map_map]
    rfl
  have e2 : o.toList.map (fun i : Int => tcost d[i.toNat]!) = (List.range o.size).map fun j => tcost (caseAt d o j) := by
    rw [range_toList, List.map_map]
    rfl
  rw [e1, e2, sumF_list, sumF_list] at hs
  rw [rsum_sum, hs]
  rfl
theorem rsum_mono (d : Array CaseD) (o : Array Int) {i : Nat} : ∀ {j}, i ≤ j → rsum d o i ≤ rsum d o j := by
  intro j
  induction j with
  | zero => intro h; have : i = 0 := by omega
            subst this; exact Int.le_refl _
  | succ j ih =>
    intro h
    by_cases e : i = j + 1
    · subst e; exact Int.le_refl _
    · have h1 := ih (by omega)
      have h2 := tcost_bounds (caseAt d o j)
      rw [rsum]
      omega
theorem run_bounds {d : Array CaseD} {o : Array Int} (h : OrdOK d.size o) {k : Nat} (hk : k < d.size) : tcost d[k]! ≤ (reachA d o)[k]! ∧ (reachA d o)[k]! ≤ testsT d d.size := by
  obtain ⟨j, hj, e⟩ := ord_onto h hk
  have hjo : j < o.size := by have := h.1; omega
  have hg := reachA_get h (d := d) hjo
  rw [e, Int.toNat_natCast] at hg
  have hb := (rsum_bounds d o j).1
  have hm := rsum_mono d o (show j + 1 ≤ o.size by omega)
  rw [tests_all h] at hm
  have hc : caseAt d o j = d[k]! := by rw [caseAt, e, Int.toNat_natCast]
  refine ⟨?_, by rw [hg]; exact hm⟩
  rw [hg, rsum, hc]
  omega
/-- What RunChain answers for a valid order and a key, in the words of the other functions. -/
theorem run_says {d : Array CaseD} {rest key : Int} {o : Array Int} (h : runB d rest o key = true) :
    runTN d rest o key = targetN d rest key ∧ ((caseN d rest key = -1 ∧ runCN d rest o key = testsT d d.size) ∨ ∃ k : Nat, k < d.size ∧ caseN d rest key = k ∧ runCN d rest o key = (reachA d o)[k]! ∧ (reachN d rest o)[k]? = some (reachA d o)[k]!) := by
  have h1 := h
  rw [runB, Bool.and_eq_true] at h1
  obtain ⟨hs, ho⟩ := ordS_on h1.1
  have hsw : swB d rest = true := (swB_iff _ _).2 hs
  have hok : okN d rest key = true := by rw [okN, hsw, h1.2]; rfl
  refine ⟨by rw [runTN, if_pos h, targetN, if_pos hok]; rfl, ?_⟩
  rw [caseN, if_pos hsw, runCN, if_pos h, runC]
  rcases atN_cases d key with ⟨k, hk, ha, _⟩ | ⟨ha, _⟩
  · right
    refine ⟨k, hk, ha, by rw [ha, if_pos (by omega), Int.toNat_natCast], ?_⟩
    rw [reachN_on h1.1]
    have hz : k < (reachA d o).size := by
      rw [reachA_size]
      have := ho.1
      omega
    simp [hz]
  · left
    exact ⟨ha, by rw [ha, if_neg (by omega), tests_all ho]⟩
end Go.Proofs.YtjmfcnblkojejaaDoor
