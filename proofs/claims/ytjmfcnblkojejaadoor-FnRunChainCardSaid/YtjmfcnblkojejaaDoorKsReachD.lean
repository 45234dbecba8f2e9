
/- The model's l3Reach, and its ReachCosts. · The iterator over a chain: what its closure promises to every loop over it. · ReachCosts of the program. -/
import Derived.Test.YtjmfcnblkojejaaDoorKsReachP
import Derived.Test.YtjmfcnblkojejaaDoorKsOrdV
import Derived.Test.YtjmfcnblkojejaaDoorKsCopy
import Derived.Test.YtjmfcnblkojejaaDoorKsBoxN
import Derived.Test.YtjmfcnblkojejaaDoorKsKeepS
namespace Go.Proofs.YtjmfcnblkojejaaDoor
open Go.RowKit Go.Shelf Go.Lib Go.Sort

set_option maxRecDepth 100000 in
set_option maxHeartbeats 1000000 in
theorem l3Reach_any (b off cap : Nat) (d : Array CaseD) (rest : Int) (bo co : Nat) (o : Array Int) (w : World) (hR : RowC w b off d) (hok : SwOK d rest) (hO : RowN w bo 0 o) (hord : OrdOK d.size o) :
    Calls Tryd.prog 74 #[.agg #[.slice (some ⟨b, off, none⟩) d.size cap, .int .i64 rest], .slice (some ⟨bo, 0, none⟩) o.size co] w fun x w' =>
      ∃ g, x = .returned (.tuple #[.slice (some ⟨g, 0, none⟩) o.size o.size, .int .i64 (rsum d o o.size)]) ∧ w.heap.size ≤ g ∧ BoxN w' g (reachA d o) ∧ RowKit.Below w.heap.size w w' := by
  have HR := Lib.hid hR
  have HO := Lib.hid hok
  have HN := Lib.hid hO
  have HORD := Lib.hid hord
  have h8n : o.size ≤ 8 := by rw [hord.1]; exact hok.size
  have h8 : (o.size : Int) ≤ 8 := by omega
  have h8d : (d.size : Int) ≤ 8 := by have := hok.size; omega
  have hmk := run_makeInt o.size (by omega)
  clear hR hok hO hord
  go_enter Tryd.func74, Tryd.ntmps74
  go_wp2
  have hH0 := BoxN.made o.size (w.alloc (.cells #[.slice (some ⟨b, off, none⟩) d.size cap, .int .i64 rest] 25)) (w.heap.size + 1) (by simp)
  obtain ⟨wa, hwa⟩ : ∃ wa, wa = (w.alloc (.cells #[.slice (some ⟨b, off, none⟩) d.size cap, .int .i64 rest] 25)).alloc (.cells (madeCells #[.int .i64 0] o.size) 3) := ⟨_, rfl⟩
  rw [← hwa] at hH0
  have hz : wa.heap.size = w.heap.size + 2 := by rw [hwa]; simp
  have hba : RowKit.Below w.heap.size w wa := by rw [hwa]; exact ((Below.refl _ _).alloc (Nat.le_refl _) _).alloc (by simp) _
  have c0 : wa.cell? ⟨w.heap.size, 0, none⟩ = some (.slice (some ⟨b, off, none⟩) d.size cap) := by rw [hwa]; simp [go_sem]
  have c1 : wa.cell? ⟨w.heap.size, 1, none⟩ = some (.int .i64 rest) := by rw [hwa]; simp [go_sem]
  rw [← hwa]
  have HH0 := Lib.hid hH0
  have HB := Lib.hid hba
  have C0 := Lib.hid c0
  have C1 := Lib.hid c1
  clear hwa hba hH0 hmk c0 c1
  obtain ⟨g, hg⟩ : ∃ g, g = w.heap.size + 1 := ⟨_, rfl⟩
  rw [← hg] at HH0 ⊢
  have hgl : w.heap.size < g := by omega
  have hgz : g < wa.heap.size := by omega
  clear hg hz
  go_loopw [7, 15] (fun t i wr => ∃ (k : Nat), i = .int .i64 k ∧ t = .int .i64 (rsum d o k) ∧ k ≤ o.size ∧ Hid (BoxN wr g (reachTo d o k)) ∧ Hid (RowKit.Below g wa wr) ∧ wa.heap.size ≤ wr.heap.size) (fun _ i _ => o.size - (Lib.intOf i).toNat)
  case atStart => exact ⟨0, rfl, rfl, Nat.zero_le _, HH0.out, Below.refl _ _, Nat.le_refl _⟩
  case round =>
    obtain ⟨k, rfl, rfl, hk, HH, HW, hw2⟩ := hrel
    have HWW := Lib.hid (HB.out.trans (HW.out.mono (Nat.le_of_lt hgl)))
    have hrs := rsum_bounds d o k
    obtain ⟨hr1, hr2⟩ := hrs
    by_cases hlt : k < o.size
    · have x0 := (HN.out.below HWW.out).cell k hlt
      have a0 := (HW.out.cell (p := ⟨w.heap.size, 0, none⟩) hgl).trans C0.out
      have a1 := (HW.out.cell (p := ⟨w.heap.size, 1, none⟩) hgl).trans C1.out
      obtain ⟨t, ht, htn⟩ := HORD.out.idx hlt
      rw [ht, Nat.zero_add] at x0
      have hx := HR.out.below HWW.out
      have y0 := hx.low t htn
      have y1 := hx.high t htn
      have y2 := hx.target t htn
      have y3 := hx.weight t htn
      obtain ⟨x, hxe⟩ : ∃ x, x = d[t]! := ⟨_, rfl⟩
      rw [← hxe] at y0 y1 y2 y3
      have HX := Lib.hid (show caseAt d o k = x by rw [caseAt, ht, Int.toNat_natCast, hxe])
      have HT := Lib.hid ht
      have hsum := Lib.hid (show rsum d o (k + 1) = rsum d o k + tcost x by rw [← HX.out]; rfl)
      obtain ⟨r, hr⟩ : ∃ r, r = rsum d o k := ⟨_, rfl⟩
      rw [← hr] at hr1 hr2 hsum ⊢
      have htb := tcost_bounds x
      obtain ⟨ht1, ht2⟩ := htb
      obtain ⟨tc, htc⟩ : ∃ tc, tc = tcost x := ⟨_, rfl⟩
      have hcall := fun W => l3Cost_any x W
      rw [← htc] at ht1 ht2 hsum hcall
      have HCL := Lib.hid hcall
      have hgA : t < (reachTo d o k).size := by rw [reachTo_size, HORD.out.1]; exact htn
      have z0 := (HH.out.holds t hgA).1
      have z1 := (HH.out.holds t hgA).2
      simp only [Nat.zero_add] at z0 z1
      have HGA := Lib.hid hgA
      have hgw : g < wr.heap.size := Nat.lt_of_lt_of_le hgz hw2
      have hoT : (t : Int) < (o.size : Int) := by have := HORD.out.1; omega
      clear hxe hr htc hx ht hcall hgA
      go_wp2_with (go_at_call 82; refine (HCL.out _).mono ?_; rintro y w2 ⟨rfl, hb2⟩; have u0 := (hb2.cell (p := ⟨g, t, none⟩) hgw).trans z0; have u1 := (hb2.frozen (p := ⟨g, t, none⟩) hgw).trans z1; have HB2 := Lib.hid hb2; clear hb2)
      go_roundw
      case rel =>
        have hh2 : BoxN w2 g (reachTo d o k) := HH.out.below HB2.out
        refine ⟨k + 1, by go_num, by rw [hsum.out], by omega, ?_, (HW.out.trans (HB2.out.mono (Nat.le_of_lt hgw))).setCell (p := ⟨g, t, none⟩) (Nat.le_refl _) _, ?_⟩
        · have := hh2.set t (rsum d o (k + 1))
          rw [hsum.out] at this
          show BoxN _ _ ((reachTo d o k).setIfInBounds (o[k]!).toNat (rsum d o (k + 1)))
          rw [HT.out, Int.toNat_natCast, hsum.out]
          exact this
        · have := HB2.out.size
          simp [World.setCell]
          omega
      case measure => simp [Lib.intOf]; omega
    · have hke : k = o.size := by omega
      subst hke
      go_wp2
      go_ret2
      exact ⟨g, rfl, Nat.le_of_lt hgl, HH.out, HWW.out⟩

/-! ReachCosts -/
noncomputable def reachN (d : Array CaseD) (rest : Int) (o : Array Int) : List Int := if ordS d rest o = true then (reachA d o).toList else []
theorem reachN_on {d : Array CaseD} {rest : Int} {o : Array Int} (h : ordS d rest o = true) : reachN d rest o = (reachA d o).toList := by rw [reachN, if_pos h]
theorem reachN_off {d : Array CaseD} {rest : Int} {o : Array Int} (h : ordS d rest o = false) : reachN d rest o = [] := by rw [reachN, if_neg (by rw [h]; exact Bool.false_ne_true)]
theorem ordS_on {d : Array CaseD} {rest : Int} {o : Array Int} (h : ordS d rest o = true) : SwOK d rest ∧ OrdOK d.size o := by
  rw [ordS, Bool.and_eq_true] at h
  exact ⟨(swB_iff _ _).1 h.1, (ordB_iff _ _).1 h.2⟩
theorem ret2N {v : Value} {a b : Bool} (h : a = b) : Ending.returned (.tuple #[v, .bool a]) = .returned (.tuple #[v, .bool b]) := by rw [h]
/-- Two results: a slice of integers of the call's own, and whether it is one. -/
def Ints2 (base : Nat) (L : List Int) (ok : Bool) (w : World) (x : Ending) (w' : World) : Prop :=
  ∃ v, x = .returned (.tuple #[v, .bool ok]) ∧ OwnsN base v L w' ∧ RowKit.Below base w w'

set_option maxRecDepth 100000 in
set_option maxHeartbeats 1000000 in
theorem specReach_any (b off cap : Nat) (d : Array CaseD) (rest : Int) (bo co : Nat) (o : Array Int) (w : World) (hR : RowC w b off d) (hcap : d.size ≤ cap) (hmax : cap ≤ maxLen) (hO : RowN w bo 0 o) (ho : o.size ≤ 1048576) :
    Calls Tryd.prog 31 #[.agg #[.slice (some ⟨b, off, none⟩) d.size cap, .int .i64 rest], .slice (some ⟨bo, 0, none⟩) o.size co] w (Ints2 w.heap.size (reachN d rest o) (ordS d rest o) w) := by
  have hv := fun W (hW : RowKit.Below w.heap.size w W) => specOrder_any b off cap d rest bo co o W (hR.below hW) hcap hmax (hO.below hW) ho
  have hk := fun W (hW : RowKit.Below w.heap.size w W) (h1 : SwOK d rest) (h2 : OrdOK d.size o) => l3Reach_any b off cap d rest bo co o W (hR.below hW) h1 (hO.below hW) h2
  have HK := Lib.hid hk
  obtain ⟨wa, hwa⟩ : ∃ wa, wa = w.alloc (.cells #[.slice (some ⟨b, off, none⟩) d.size cap, .int .i64 rest] 25) := ⟨_, rfl⟩
  have c0 : wa.cell? ⟨w.heap.size, 0, none⟩ = some (.slice (some ⟨b, off, none⟩) d.size cap) := by rw [hwa]; simp
  have c1 : wa.cell? ⟨w.heap.size, 1, none⟩ = some (.int .i64 rest) := by rw [hwa]; simp
  have hz : w.heap.size < wa.heap.size := by rw [hwa]; simp
  have hba : RowKit.Below w.heap.size w wa := by rw [hwa]; exact (Below.refl _ _).alloc (Nat.le_refl _) _
  have HA := Lib.hid hba
  have C0 := Lib.hid c0
  have C1 := Lib.hid c1
  have HWA := Lib.hid hwa
  clear hba c0 c1 hwa hR hO hk
  cases hs : ordS d rest o
  all_goals
    simp only [hs] at hv
    have HV := Lib.hid hv
    have HS := Lib.hid hs
    clear hv hs
    go_enter Tryd.func31, Tryd.ntmps31
    go_wp2_with fail
    rw [← HWA.out]
    refine (HV.out _ HA.out).mono ?_
    rintro x w1 ⟨rfl, hb⟩
    have HB := Lib.hid hb
    have hz1 := hb.size
    have a0 := (hb.cell (p := ⟨w.heap.size, 0, none⟩) hz).trans C0.out
    have a1 := (hb.cell (p := ⟨w.heap.size, 1, none⟩) hz).trans C1.out
    have HWB := Lib.hid (HA.out.trans (HB.out.mono (by omega)))
    clear hb
    go_wp2_with fail
  · go_ret2
    refine ⟨_, rfl, ?_, HWB.out.alloc (by omega) _⟩
    rw [reachN_off HS.out]
    exact World.ownsRow_made (base := w.heap.size) (e := 3) (size := 1) w1 #[] 0 (by omega) (by unfold maxLen; omega) rfl
  · obtain ⟨hok, hord⟩ := ordS_on HS.out
    have h8 : o.size ≤ 8 := by rw [hord.1]; exact hok.size
    refine (HK.out _ HWB.out hok hord).mono ?_
    rintro x w2 ⟨g, rfl, hg, hbx, hb2⟩
    have HX := Lib.hid hbx
    have HB2 := Lib.hid (HWB.out.trans (hb2.mono HWB.out.size))
    clear hok hord hbx hb2
    go_wp2
    go_ret2
    refine ⟨_, rfl, ?_, HB2.out⟩
    rw [reachN_on HS.out]
    have := HX.out.owns (base := w.heap.size) (by have := HWB.out.size; omega) (by rw [reachA_size]; omega)
    rw [reachA_size] at this
    exact this
end Go.Proofs.YtjmfcnblkojejaaDoor

namespace Go.Proofs.YtjmfcnblkojejaaDoor
open Go.RowKit Go.Shelf Go.Lib Go.Sort

attribute [local go_sem] Oper.semAt_some

theorem RowC.kp {W W' : World} {K : Nat → Prop} (h : KpS K W W') {b off : Nat} {d : Array CaseD} (hb : K b) (hR : RowC W b off d) : RowC W' b off d :=
  ⟨Nat.lt_of_lt_of_le hR.old h.size, fun j hj => h.cell hb (hR.low j hj), fun j hj => h.cell hb (hR.high j hj), fun j hj => h.cell hb (hR.target j hj), fun j hj => h.cell hb (hR.weight j hj)⟩

/-- What a round is handed: an index and a sum within bounds. -/
abbrev ReD (n : Nat) := { p : Int × Int // (0 ≤ p.1 ∧ p.1 < n) ∧ 0 ≤ p.2 ∧ p.2 ≤ 16 }
abbrev encR {n : Nat} (x : ReD n) : Array Value := #[.int .i64 x.1.1, .int .i64 x.1.2]
def valR {n : Nat} (l : List (ReD n)) : List (Int × Int) := l.map (·.1)
theorem valR_snoc {n : Nat} (l : List (ReD n)) (x : ReD n) : valR (l ++ [x]) = valR l ++ [x.1] := by simp [valR]
def reachL (d : Array CaseD) (o : Array Int) (k : Nat) : List (Int × Int) := (List.range k).map fun j => (o[j]!, rsum d o (j + 1))
theorem reachL_succ (d : Array CaseD) (o : Array Int) (k : Nat) : reachL d o (k + 1) = reachL d o k ++ [(o[k]!, rsum d o (k + 1))] := by simp [reachL, List.range_succ]
theorem reachL_length (d : Array CaseD) (o : Array Int) (k : Nat) : (reachL d o k).length = k := by simp [reachL]

set_option maxHeartbeats 400000 in
theorem reaches_any (ac : Option Addr) (n cc : Nat) (v : Value) (rest : Int) (w : World) :
    Calls Tryd.prog 71 #[.slice ac n cc, .agg #[v, .int .i64 rest]] w fun x w' => x = .returned (.func (.func 114) #[] #[.pointer (some ⟨w.heap.size, 0, none⟩), .pointer (some ⟨w.heap.size + 1, 0, none⟩)]) ∧ w' = (w.alloc (.cells #[.slice ac n cc] 87)).alloc (.cells #[v, .int .i64 rest] 25) := by
  go_enter Tryd.func71, Tryd.ntmps71
  go_wp2
  go_ret
  exact ⟨rfl, rfl⟩

/-- What the iterator reads between two rounds. -/
structure ItR (Bs b off cap bo : Nat) (d : Array CaseD) (rest : Int) (o : Array Int) (W : World) : Prop where
  c0 : W.cell? ⟨Bs, 0, none⟩ = some (.slice (some ⟨b, off, none⟩) d.size cap)
  c1 : W.cell? ⟨Bs, 1, none⟩ = some (.int .i64 rest)
  Blt : Bs < W.heap.size
  row : RowC W b off d
  ord : RowN W bo 0 o
def KR (Bs b bo : Nat) (i : Nat) : Prop := i = Bs ∨ i = b ∨ i = bo
theorem ItR.kp {Bs b off cap bo : Nat} {d : Array CaseD} {rest : Int} {o : Array Int} {W W' : World} (h : ItR Bs b off cap bo d rest o W) (k : KpS (KR Bs b bo) W W') : ItR Bs b off cap bo d rest o W' :=
  ⟨k.cell (.inl rfl) h.c0, k.cell (.inl rfl) h.c1, Nat.lt_of_lt_of_le h.Blt k.size, h.row.kp k (.inr (.inl rfl)), h.ord.kp k (.inr (.inr rfl))⟩
theorem ItR.lt {Bs b off cap bo : Nat} {d : Array CaseD} {rest : Int} {o : Array Int} {W : World} (h : ItR Bs b off cap bo d rest o W) : ∀ i, KR Bs b bo i → i < W.heap.size := by
  rintro i (rfl | rfl | rfl)
  · exact h.Blt
  · exact h.row.old
  · exact h.ord.old
theorem ItR.below {Bs b off cap bo : Nat} {d : Array CaseD} {rest : Int} {o : Array Int} {W W' : World} (h : ItR Bs b off cap bo d rest o W) (hb : RowKit.Below W.heap.size W W') : ItR Bs b off cap bo d rest o W' :=
  h.kp (.of_below h.lt hb)
theorem abidesR_below {n : Nat} {J : List (ReD n) → World → Prop} {N : Nat} (hJ : AbidesFrom N J) {pre : List (ReD n)} {W W' : World} (h : J pre W) (hb : RowKit.Below W.heap.size W W') : J pre W' :=
  hJ pre W W' none h (grown_of_below hb) (fun r e => by cases e)

set_option maxRecDepth 100000 in
set_option maxHeartbeats 2000000 in
theorem reaches_walk (n Bc Bs b off cap bo co l : Nat) (d : Array CaseD) (rest : Int) (o : Array Int) (hn : 1 ≤ n) (hok : SwOK d rest) (hord : OrdOK d.size o) (J Jx : List (ReD d.size) → World → Prop) (N : Nat) (hJ : AbidesFrom N J)
    (hY : ∀ pre x W, J pre W → pre.length < 8 → YieldAt Fence.wide (n - 1) Tryd.prog l (encR x) W fun e W' =>
      (e = .returned (.bool true) ∧ J (pre ++ [x]) W' ∧ KpS (KR Bs b bo) W W') ∨ (e = .returned (.bool false) ∧ Jx (pre ++ [x]) W'))
    (W : World) (hc : W.cell? ⟨Bc, 0, none⟩ = some (.slice (some ⟨bo, 0, none⟩) o.size co)) (hI : ItR Bs b off cap bo d rest o W) (h0 : J [] W) :
    CallsIn Fence.wide n Tryd.prog 114 #[.func (.yield l) #[] #[], .pointer (some ⟨Bc, 0, none⟩), .pointer (some ⟨Bs, 0, none⟩)] W fun e W' => (∃ v, e = .returned v) ∧
      ((∃ ys, valR ys = reachL d o o.size ∧ J ys W') ∨ (∃ pre, (∃ k, k ≤ o.size ∧ valR pre = reachL d o k) ∧ Jx pre W')) := by
  have HO := Lib.hid hok
  have HORD := Lib.hid hord
  have HI := Lib.hid hI
  have HJ0 := Lib.hid h0
  have HJ := Lib.hid hJ
  have HY := Lib.hid hY
  have h8n : o.size ≤ 8 := by rw [hord.1]; exact hok.size
  have h8 : (o.size : Int) ≤ 8 := by omega
  have h8d : (d.size : Int) ≤ 8 := by have := hok.size; omega
  clear hok hord hI h0 hJ hY
  refine callsIn_of_wp Tryd.func114 rfl trivial ?_ rfl
  simp only [Tryd.ntmps114, List.size_toArray, List.length_cons, List.length_nil, Nat.reduceAdd, Nat.reduceSub, Array.replicate_succ, Array.replicate_zero, List.push_toArray, List.append_toArray, List.nil_append, List.cons_append]
  gi_wp2
  clear hc
  gi_loopw [4, 9] (fun t i wr => ∃ (k : Nat) (pre : List (ReD d.size)), i = .int .i64 k ∧ t = .int .i64 (rsum d o k) ∧ k ≤ o.size ∧ Hid (valR pre = reachL d o k) ∧ Hid (J pre wr) ∧ Hid (ItR Bs b off cap bo d rest o wr)) (fun _ i _ => o.size - (Lib.intOf i).toNat)
  case atStart => exact ⟨0, [], rfl, rfl, Nat.zero_le _, rfl, HJ0.out, HI.out⟩
  case round =>
    obtain ⟨k, pre, rfl, rfl, hk, HV, HJk, HIk⟩ := hrel
    have hrs := rsum_bounds d o k
    obtain ⟨hr1, hr2⟩ := hrs
    by_cases hlt : k < o.size
    · have b0 := HIk.out.c0
      have b1 := HIk.out.c1
      have x0 := HIk.out.ord.cell k hlt
      obtain ⟨t, ht, htn⟩ := HORD.out.idx hlt
      rw [ht, Nat.zero_add] at x0
      have hx := HIk.out.row
      have y0 := hx.low t htn
      have y1 := hx.high t htn
      have y2 := hx.target t htn
      have y3 := hx.weight t htn
      have hcase := HO.out.case t htn
      obtain ⟨x, hxe⟩ : ∃ x, x = d[t]! := ⟨_, rfl⟩
      rw [← hxe] at y0 y1 y2 y3 hcase
      have HX := Lib.hid (show caseAt d o k = x by rw [caseAt, ht, Int.toNat_natCast, hxe])
      have HT := Lib.hid ht
      have hsum := Lib.hid (show rsum d o (k + 1) = rsum d o k + tcost x by rw [← HX.out]; rfl)
      obtain ⟨r, hr⟩ : ∃ r, r = rsum d o k := ⟨_, rfl⟩
      rw [← hr] at hr1 hr2 hsum ⊢
      have htb := tcost_bounds x
      obtain ⟨ht1, ht2⟩ := htb
      have l1 := caseB_low hcase
      have l2 := caseB_high hcase
      obtain ⟨tc, htc⟩ : ∃ tc, tc = tcost x := ⟨_, rfl⟩
      have hcall := fun W => testCost_any x W l1.1 l1.2 l2.1 l2.2
      rw [← htc] at ht1 ht2 hsum hcall
      have HCL := Lib.hid hcall
      have hpl : pre.length = k := by
        have h1 := congrArg List.length HV.out
        rw [reachL_length] at h1
        simpa [valR] using h1
      clear hxe hr htc hx ht hcall hcase l1 l2
      gi_wp2_with fail
      refine ⟨trivial, ?_⟩
      refine (callsIn_wide.2 (HCL.out wr)).mono ?_
      rintro e w2 ⟨rfl, hb2⟩
      have hI2 := HIk.out.below hb2
      have HI2 := Lib.hid hI2
      have HJ2 := Lib.hid (abidesR_below HJ.out HJk.out hb2)
      clear hb2 hI2
      obtain ⟨fn, tmps, assign, body, hy, hR⟩ := HY.out pre ⟨(t, r + tc), ⟨by simp, by simpa using htn⟩, by simp; omega, by simp; omega⟩ w2 HJ2.out (by omega)
      dsimp only [encR] at hy
      have HR := Lib.hid hR
      clear hR b0 b1 x0 y0 y1 y2 y3
      gi_wp2_with fail
      refine HR.out.mono ?_
      rintro e W3 (⟨rfl, hJ3, hk3⟩ | ⟨rfl, hJx3⟩)
      · have HI3 := Lib.hid (HI2.out.kp hk3)
        have HJ3 := Lib.hid hJ3
        clear hy hk3 hJ3 HR
        gi_wp2
        go_roundw
        case rel =>
          refine ⟨k + 1, _, by go_num, by rw [hsum.out], by omega, ?_, HJ3.out, HI3.out⟩
          show valR _ = _
          rw [valR_snoc, HV.out, reachL_succ, HT.out, hsum.out]
        case measure => simp [Lib.intOf]; omega
      · gi_wp2
        refine bodyPost_ret (results_none rfl _ _ _) rfl ?_
        refine ⟨⟨_, rfl⟩, .inr ⟨_, ⟨k + 1, by omega, ?_⟩, hJx3⟩⟩
        rw [valR_snoc, HV.out, reachL_succ, HT.out, hsum.out]
    · have hke : k = o.size := by omega
      subst hke
      gi_wp2
      go_end0
      exact ⟨⟨_, rfl⟩, .inl ⟨pre, HV.out, HJk.out⟩⟩

/-- What reaches hands back: each index of the order with the sum up to it. -/
theorem reaches_stops (n Bc Bs b off cap bo co : Nat) (d : Array CaseD) (rest : Int) (o : Array Int) (w : World) (hn : 1 ≤ n) (hok : SwOK d rest) (hord : OrdOK d.size o) (hc : w.cell? ⟨Bc, 0, none⟩ = some (.slice (some ⟨bo, 0, none⟩) o.size co)) (hBc : Bc < w.heap.size) (hI : ItR Bs b off cap bo d rest o w) :
    SeqStopsK Fence.wide n Tryd.prog 114 #[.pointer (some ⟨Bc, 0, none⟩), .pointer (some ⟨Bs, 0, none⟩)] (fun x : ReD d.size => #[Value.int .i64 x.1.1, .int .i64 x.1.2]) (KpS (KR Bs b bo)) (fun ys => valR ys = reachL d o o.size) (fun pre => ∃ k, k ≤ o.size ∧ valR pre = reachL d o k) 8 w := fun l J Jx W hW hJ _ hY h0 =>
  reaches_walk n Bc Bs b off cap bo co l d rest o hn hok hord J Jx _ hJ hY W ((hW.cell (p := ⟨Bc, 0, none⟩) hBc).trans hc) (hI.below hW) h0
end Go.Proofs.YtjmfcnblkojejaaDoor

namespace Go.Proofs.YtjmfcnblkojejaaDoor
open Go.RowKit Go.Shelf Go.Lib Go.Sort

attribute [local go_sem] Oper.semAt_some

def applyR (n : Nat) (l : List (Int × Int)) : Array Int := l.foldl (fun A p => A.setIfInBounds p.1.toNat p.2) (Array.replicate n 0)
theorem applyR_snoc (n : Nat) (l : List (Int × Int)) (p : Int × Int) : applyR n (l ++ [p]) = (applyR n l).setIfInBounds p.1.toNat p.2 := by simp [applyR, List.foldl_append]
theorem applyR_size (n : Nat) (l : List (Int × Int)) : (applyR n l).size = n := by
  unfold applyR
  have : ∀ (l : List (Int × Int)) (A : Array Int), (l.foldl (fun A p => A.setIfInBounds p.1.toNat p.2) A).size = A.size := fun l => by
    induction l with
    | nil => intro A; rfl
    | cons p l ih => intro A; rw [List.foldl_cons, ih]; simp
  rw [this]
  simp
theorem applyR_reach (d : Array CaseD) (o : Array Int) : ∀ k, applyR o.size (reachL d o k) = reachTo d o k
  | 0 => rfl
  | k + 1 => by rw [reachL_succ, applyR_snoc, applyR_reach d o k]; rfl
theorem boxN_own (g : Nat) (f : List (Int × Int) → Array Int) {n : Nat} : Own (fun (pre : List (ReD n)) W => BoxN W g (f (valR pre))) := fun _ X Y row hs hg hrow =>
  hs.kept hg (fun e' => by obtain ⟨o, ho, hc⟩ := hrow g e'.symm; rw [show X.heap[g]? = _ from hs] at ho; cases ho; cases hc)

set_option maxRecDepth 100000 in
set_option maxHeartbeats 2000000 in
theorem implReach_any (b off cap : Nat) (d : Array CaseD) (rest : Int) (bo co : Nat) (o : Array Int) (w : World) (hR : RowC w b off d) (hE : ErrAt w) (hcap : d.size ≤ cap) (hmax : cap ≤ maxLen) (hO : RowN w bo 0 o) (ho : o.size ≤ 1048576) :
    Calls Tryd.prog 30 #[.agg #[.slice (some ⟨b, off, none⟩) d.size cap, .int .i64 rest], .slice (some ⟨bo, 0, none⟩) o.size co] w (Ints2 w.heap.size (reachN d rest o) (ordS d rest o) w) := by
  have hv := fun W (hW : RowKit.Below w.heap.size w W) => implOrder_any b off cap d rest bo co o W (hR.below hW) (hE.below hW) hcap hmax (hO.below hW) ho
  have HR := Lib.hid hR
  have HN := Lib.hid hO
  have ho' : (o.size : Int) ≤ 1048576 := by omega
  have hmk := run_makeInt o.size ho
  obtain ⟨wa, hwa⟩ : ∃ wa, wa = w.alloc (.cells #[.slice (some ⟨b, off, none⟩) d.size cap, .int .i64 rest] 25) := ⟨_, rfl⟩
  have c0 : wa.cell? ⟨w.heap.size, 0, none⟩ = some (.slice (some ⟨b, off, none⟩) d.size cap) := by rw [hwa]; simp
  have c1 : wa.cell? ⟨w.heap.size, 1, none⟩ = some (.int .i64 rest) := by rw [hwa]; simp
  have hz : wa.heap.size = w.heap.size + 1 := by rw [hwa]; simp
  have hba : RowKit.Below w.heap.size w wa := by rw [hwa]; exact (Below.refl _ _).alloc (Nat.le_refl _) _
  have HA := Lib.hid hba
  have C0 := Lib.hid c0
  have C1 := Lib.hid c1
  have HWA := Lib.hid hwa
  have HI2 := Lib.hid (show Ints2 w.heap.size (reachN d rest o) (ordS d rest o) w = fun x w' => ∃ v, x = .returned (.tuple #[v, .bool (ordS d rest o)]) ∧ OwnsN w.heap.size v (reachN d rest o) w' ∧ RowKit.Below w.heap.size w w' from rfl)
  clear hba c0 c1 hwa hR hO hE
  refine (callsIn_wide (n := 5)).1 ?_
  rw [HI2.out]
  cases hs : ordS d rest o
  all_goals
    simp only [hs] at hv
    have HV := Lib.hid hv
    have HS := Lib.hid hs
    clear hv hs
    refine callsIn_of_wp_marks Tryd.func30 rfl trivial ?_ rfl
    simp only [Tryd.ntmps30, List.size_toArray, List.length_cons, List.length_nil, Nat.reduceAdd, Nat.reduceSub, Array.replicate_succ, Array.replicate_zero, List.push_toArray, List.append_toArray, List.nil_append, List.cons_append]
    gi_wp2_with fail
    rw [← HWA.out]
    refine ⟨trivial, ?_⟩
    refine (callsIn_wide.2 (HV.out _ HA.out)).mono ?_
    rintro x w1 ⟨rfl, hb⟩
    have HB := Lib.hid hb
    have hz1 := hb.size
    have a0 := (hb.cell (p := ⟨w.heap.size, 0, none⟩) (by omega : w.heap.size < wa.heap.size)).trans C0.out
    have a1 := (hb.cell (p := ⟨w.heap.size, 1, none⟩) (by omega : w.heap.size < wa.heap.size)).trans C1.out
    have HWB := Lib.hid (HA.out.trans (HB.out.mono (by omega)))
    clear hb
    have hwz : w.heap.size < w1.heap.size := by omega
    gi_wp2_with fail
  · refine ⟨_, results_tmp2 rfl _ _ _, _, rfl, ?_, HWB.out⟩
    rw [reachN_off HS.out]
    exact World.ownsRow_nil _ _ _ _
  · refine ⟨trivial, ?_⟩
    refine (callsIn_wide.2 (reaches_any (some ⟨bo, 0, none⟩) o.size co (.slice (some ⟨b, off, none⟩) d.size cap) rest _)).mono ?_
    rintro x w2 ⟨rfl, rfl⟩
    gi_wp2_with fail
    obtain ⟨hok, hord⟩ := ordS_on HS.out
    have h8n : o.size ≤ 8 := by rw [hord.1]; exact hok.size
    have h8 : (o.size : Int) ≤ 8 := by omega
    have HSZ := Lib.hid hord.1
    have hgn := BoxN.made o.size w1 w1.heap.size rfl
    obtain ⟨w2, hw2⟩ : ∃ w2, w2 = w1.alloc (.cells (madeCells #[.int .i64 0] o.size) 3) := ⟨_, rfl⟩
    rw [← hw2] at hgn ⊢
    have hz2 : w2.heap.size = w1.heap.size + 1 := by rw [hw2]; simp
    have hb2 : RowKit.Below w1.heap.size w1 w2 := by rw [hw2]; exact (Below.refl _ _).alloc (Nat.le_refl _) _
    have bX := ((Boxed.new w2 43 (.slice (some ⟨w1.heap.size, 0, none⟩) o.size o.size)).alloc (.cells #[.slice (some ⟨bo, 0, none⟩) o.size co] 87)).alloc (.cells #[.slice (some ⟨b, off, none⟩) d.size cap, .int .i64 rest] 25)
    obtain ⟨W0, hW0⟩ : ∃ W0, W0 = ((w2.alloc (.cells #[.slice (some ⟨w1.heap.size, 0, none⟩) o.size o.size] 43)).alloc (.cells #[.slice (some ⟨bo, 0, none⟩) o.size co] 87)).alloc (.cells #[.slice (some ⟨b, off, none⟩) d.size cap, .int .i64 rest] 25) := ⟨_, rfl⟩
    have f0 : W0.cell? ⟨w2.heap.size + 1, 0, none⟩ = some (.slice (some ⟨bo, 0, none⟩) o.size co) := by rw [hW0]; simp [go_sem]
    have e0 : W0.cell? ⟨w2.heap.size + 2, 0, none⟩ = some (.slice (some ⟨b, off, none⟩) d.size cap) := by rw [hW0]; simp [go_sem]
    have e1 : W0.cell? ⟨w2.heap.size + 2, 1, none⟩ = some (.int .i64 rest) := by rw [hW0]; simp [go_sem]
    have hsz : W0.heap.size = w2.heap.size + 3 := by rw [hW0]; simp
    have hB20 : RowKit.Below w2.heap.size w2 W0 := by rw [hW0]; exact (((Below.refl _ _).alloc (Nat.le_refl _) _).alloc (by simp) _).alloc (by simp; omega) _
    rw [← hW0] at bX ⊢
    clear hW0 hw2
    have hB10 := hb2.trans (hB20.mono (by omega))
    have HB0 := Lib.hid (HWB.out.trans (hB10.mono (by omega)))
    have hI := (⟨e0, e1, by omega, HR.out.below HB0.out, HN.out.below HB0.out⟩ : ItR (w2.heap.size + 2) b off cap bo d rest o W0)
    have hbl : b < w.heap.size := HR.out.old
    have hbol : bo < w.heap.size := HN.out.old
    have hseq := reaches_stops 4 (w2.heap.size + 1) (w2.heap.size + 2) b off cap bo co d rest o W0 (by decide) hok hord f0 (by omega) hI
    have HSEQ := Lib.hid hseq
    have hgn0 : BoxN W0 w1.heap.size (applyR o.size (valR ([] : List (ReD d.size)))) := hgn.below hB20
    have HKR := Lib.hid hI.lt
    have HB10 := Lib.hid hB10
    obtain ⟨g, hg⟩ : ∃ g, g = w1.heap.size := ⟨_, rfl⟩
    rw [← hg] at bX hgn0 HB10 hz2 hwz hz1 ⊢
    have hlt0 : g + 3 < W0.heap.size := by omega
    rw [hz2] at bX HSEQ HKR hI
    have HBX := Lib.hid bX
    have hg1 : g ≤ w1.heap.size := by omega
    have hg2 : w1.heap.size ≤ g := by omega
    clear hseq hI f0 e0 e1 hB20 hb2 hgn hB10 HKR hsz hg hz2
    refine wpIn_rangeFunc_ownH rfl (by decide) (gf := 114) (lb := #[.pointer (some ⟨g + 1 + 1, 0, none⟩), .pointer (some ⟨g + 1 + 1 + 1, 0, none⟩)]) rfl trivial (enters_of Tryd.func114 (by kernel_rfl) rfl)
      HSEQ.out KpS.trans (kpS_b (by rintro i (rfl | rfl | rfl) <;> omega)) (Below.refl _ _) (fun _ => rfl)
      (fun pre W => (Boxed W (g + 1) 43 (.slice (some ⟨g, 0, none⟩) o.size o.size) ∧ BoxN W g (applyR o.size (valR pre))) ∧ RowKit.Below g w1 W)
      (fun _ _ _ => False)
      (OwnFrom.and (OwnFrom.and (Own.from (boxed_own _ _ _) _) (Own.from (boxN_own g (applyR o.size)) _)) (ownFrom_below (by omega) (by omega)))
      (fun _ _ _ _ _ hs _ _ => hs)
      ⟨⟨bX, hgn0⟩, HB10.out⟩
      (fun x a' _ => a' = { tmps := #[.agg #[.slice (some ⟨b, off, none⟩) d.size cap, .int .i64 rest], .slice (some ⟨bo, 0, none⟩) o.size co, .pointer (some ⟨w.heap.size, 0, none⟩), undef, .slice none 0 0, .bool false, .pointer (some ⟨g + 1, 0, none⟩), .int .i64 x.1.1, .int .i64 x.1.2, .agg #[.slice (some ⟨b, off, none⟩) d.size cap, .int .i64 rest], .slice (some ⟨bo, 0, none⟩) o.size co, .bool true, .bool false, .slice (some ⟨bo, 0, none⟩) o.size co, .int .i64 o.size, .slice (some ⟨g, 0, none⟩) o.size o.size, .slice (some ⟨bo, 0, none⟩) o.size co, .agg #[.slice (some ⟨b, off, none⟩) d.size cap, .int .i64 rest], .func (.func 114) #[] #[.pointer (some ⟨g + 1 + 1, 0, none⟩), .pointer (some ⟨g + 1 + 1 + 1, 0, none⟩)], .int .i64 x.1.1, .int .i64 x.1.2, undef, undef, undef, undef, undef], defers := [] })
      (fun x a' _ X Y row hs hg hr => hs)
      ?assign ?body ?done ?stop
    case assign =>
      rintro l pre x W K hI1 hK
      gi_wp2
      exact hK _ _ ((KeepsOthers.refl _).from _) (KpS.refl _ _) hI1 rfl
    case body =>
      rintro l pre x a' W hl ⟨r, hr⟩ ⟨⟨bX1, bN1⟩, hB1⟩ rfl hlt
      have hc := bX1.cell
      obtain ⟨⟨xi, xr⟩, ⟨hx0, hx1⟩, _, _⟩ := x
      simp only at hx0 hx1
      obtain ⟨t, rfl⟩ : ∃ t : Nat, xi = t := ⟨xi.toNat, by omega⟩
      have htA : t < (applyR o.size (valR pre)).size := by rw [applyR_size, HSZ.out]; omega
      have z0 := (bN1.holds t htA).1
      have z1 := (bN1.holds t htA).2
      simp only [Nat.zero_add] at z0 z1
      have hti : (t : Int) < (o.size : Int) := by rw [HSZ.out]; exact hx1
      have BX := Lib.hid bX1
      have BN := Lib.hid bN1
      have HB1 := Lib.hid hB1
      clear bX1 bN1 hB1 hr htA
      gi_wp2
      have hn := BN.out.set t xr
      refine ⟨(KeepsOthers.setCell _ _ _).from _, KpS.set _ _ (by rintro (h | h | h) <;> simp at h <;> omega), ⟨BX.out.kept (grown_setN (grown_reflN W (some g)) t (.int .i64 xr)) (by simp), ?_⟩, HB1.out.setCell (p := ⟨g, t, none⟩) (Nat.le_refl _) _⟩
      rw [valR_snoc, applyR_snoc, Int.toNat_natCast]
      exact hn
    case done =>
      rintro D ys W hD hvs ⟨⟨bX1, bN1⟩, hB1⟩ hK
      have hc := bX1.cell
      gi_wp2
      refine ⟨by simp, .inl ⟨_, _, rfl, run_takeDeferred hK, ?_⟩⟩
      refine ⟨_, results_tmp2 rfl _ _ _, _, rfl, ?_, HWB.out.trans ((hB1.trans (belowK_b (w := W0) (by omega) W D _ _ (by omega) hK rfl rfl)).mono (by omega))⟩
      rw [reachN_on HS.out]
      have hbn : BoxN (W.putObj D (.deferred none)) g (reachA d o) := by
        rw [hvs, applyR_reach] at bN1
        exact bN1.kept (grownBy_putObj' W D _) (by simp; omega)
      have := hbn.owns (base := w.heap.size) (by omega) (by rw [reachA_size]; omega)
      rw [reachA_size] at this
      exact this
    case stop =>
      rintro D c pre W _ _ h _
      exact h.elim
end Go.Proofs.YtjmfcnblkojejaaDoor
