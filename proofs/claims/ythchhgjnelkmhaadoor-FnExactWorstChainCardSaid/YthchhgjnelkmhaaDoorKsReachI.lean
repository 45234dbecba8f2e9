/- The iterator over a chain: what its closure promises to every loop over it. -/
import Derived.Test.YthchhgjnelkmhaaDoorKsReachM
import Derived.Test.YthchhgjnelkmhaaDoorKsKeepS
namespace Go.Proofs.YthchhgjnelkmhaaDoor
open Go.RowKit Go.Shelf Go.Lib Go.Sort

attribute [local go_sem] Oper.semAt_some

theorem RowC.kp {W W' : World} {K : Nat → Prop} (h : KpS K W W') {b off : Nat} {d : Array CaseD} (hb : K b) (hR : RowC W b off d) : RowC W' b off d :=
  ⟨Nat.lt_of_lt_of_le hR.old h.size, fun j hj => h.cell hb (hR.low j hj), fun j hj => h.cell hb (hR.high j hj), fun j hj => h.cell hb (hR.target j hj), fun j hj => h.cell hb (hR.weight j hj)⟩

/-- What a round is handed: an index and a sum within bounds. -/
abbrev ReD (n : Nat) := { p : Int × Int // (0 ≤ p.1 ∧ p.1 < n) ∧ 0 ≤ p.2 ∧ p.2 ≤ 16 }
abbrev encR {n : Nat} (x : ReD n) : Array Value := #[.int .i64 x.1.1, .int .i64 x.1.2]
def valR {n : Nat} (l : List (ReD n)) : List (Int × Int) := l.map (·.1)
theorem valR_snoc {n : Nat} (l : List (ReD n)) (x : ReD n) : valR (l ++ [x]) = valR l ++ [x.1] := by simp [valR]
def reachL (d : Array CaseD) (o : Array Int) (k : Nat) : List (Int × Int) := (List.range k).map fun j => (o[j]!, rsum d o (j + 1))
theorem reachL_succ (d : Array CaseD) (o : Array Int) (k : Nat) : reachL d o (k + 1) = reachL d o k ++ [(o[k]!, rsum d o (k + 1))] := by simp [reachL, List.range_succ]
theorem reachL_length (d : Array CaseD) (o : Array Int) (k : Nat) : (reachL d o k).length = k := by simp [reachL]

set_option maxHeartbeats 400000 in
theorem reaches_any (ac : Option Addr) (n cc : Nat) (v : Value) (rest : Int) (w : World) :
    Calls Tryd.prog 49 #[.slice ac n cc, .agg #[v, .int .i64 rest]] w fun x w' => x = .returned (.func (.func 73) #[] #[.pointer (some ⟨w.heap.size, 0, none⟩), .pointer (some ⟨w.heap.size + 1, 0, none⟩)]) ∧ w' = (w.alloc (.cells #[.slice ac n cc] 53)).alloc (.cells #[v, .int .i64 rest] 30) := by
  go_enter Tryd.func49, Tryd.ntmps49
  go_wp2
  go_ret
  exact ⟨rfl, rfl⟩

/-- What the iterator reads between two rounds. -/
structure ItR (Bs b off cap bo : Nat) (d : Array CaseD) (rest : Int) (o : Array Int) (W : World) : Prop where
  c0 : W.cell? ⟨Bs, 0, none⟩ = some (.slice (some ⟨b, off, none⟩) d.size cap)
  c1 : W.cell? ⟨Bs, 1, none⟩ = some (.int .i64 rest)
  Blt : Bs < W.heap.size
  row : RowC W b off d
  ord : RowN W bo 0 o
def KR (Bs b bo : Nat) (i : Nat) : Prop := i = Bs ∨ i = b ∨ i = bo
theorem ItR.kp {Bs b off cap bo : Nat} {d : Array CaseD} {rest : Int} {o : Array Int} {W W' : World} (h : ItR Bs b off cap bo d rest o W) (k : KpS (KR Bs b bo) W W') : ItR Bs b off cap bo d rest o W' :=
  ⟨k.cell (.inl rfl) h.c0, k.cell (.inl rfl) h.c1, Nat.lt_of_lt_of_le h.Blt k.size, h.row.kp k (.inr (.inl rfl)), h.ord.kp k (.inr (.inr rfl))⟩
theorem ItR.lt {Bs b off cap bo : Nat} {d : Array CaseD} {rest : Int} {o : Array Int} {W : World} (h : ItR Bs b off cap bo d rest o W) : ∀ i, KR Bs b bo i → i < W.heap.size := by
  rintro i (rfl | rfl | rfl)
  · exact h.Blt
  · exact h.row.old
  · exact h.ord.old
theorem ItR.below {Bs b off cap bo : Nat} {d : Array CaseD} {rest : Int} {o : Array Int} {W W' : World} (h : ItR Bs b off cap bo d rest o W) (hb : RowKit.Below W.heap.size W W') : ItR Bs b off cap bo d rest o W' :=
  h.kp (.of_below h.lt hb)
theorem abidesR_below {n : Nat} {J : List (ReD n) → World → Prop} {N : Nat} (hJ : AbidesFrom N J) {pre : List (ReD n)} {W W' : World} (h : J pre W) (hb : RowKit.Below W.heap.size W W') : J pre W' :=
  hJ pre W W' none h (grown_of_below hb) (fun r e => by cases e)

set_option maxRecDepth 100000 in
set_option maxHeartbeats 2000000 in
theorem reaches_walk (n Bc Bs b off cap bo co l : Nat) (d : Array CaseD) (rest : Int) (o : Array Int) (hn : 1 ≤ n) (hok : SwOK d rest) (hord : OrdOK d.size o) (J Jx : List (ReD d.size) → World → Prop) (N : Nat) (hJ : AbidesFrom N J)
    (hY : ∀ pre x W, J pre W → pre.length < 8 → YieldAt Fence.wide (n - 1) Tryd.prog l (encR x) W fun e W' =>
      (e = .returned (.bool true) ∧ J (pre ++ [x]) W' ∧ KpS (KR Bs b bo) W W') ∨ (e = .returned (.bool false) ∧ Jx (pre ++ [x]) W'))
    (W : World) (hc : W.cell? ⟨Bc, 0, none⟩ = some (.slice (some ⟨bo, 0, none⟩) o.size co)) (hI : ItR Bs b off cap bo d rest o W) (h0 : J [] W) :
    CallsIn Fence.wide n Tryd.prog 73 #[.func (.yield l) #[] #[], .pointer (some ⟨Bc, 0, none⟩), .pointer (some ⟨Bs, 0, none⟩)] W fun e W' => (∃ v, e = .returned v) ∧
      ((∃ ys, valR ys = reachL d o o.size ∧ J ys W') ∨ (∃ pre, (∃ k, k ≤ o.size ∧ valR pre = reachL d o k) ∧ Jx pre W')) := by
  have HO := Lib.hid hok
  have HORD := Lib.hid hord
  have HI := Lib.hid hI
  have HJ0 := Lib.hid h0
  have HJ := Lib.hid hJ
  have HY := Lib.hid hY
  have h8n : o.size ≤ 8 := by rw [hord.1]; exact hok.size
  have h8 : (o.size : Int) ≤ 8 := by omega
  have h8d : (d.size : Int) ≤ 8 := by have := hok.size; omega
  clear hok hord hI h0 hJ hY
  refine callsIn_of_wp Tryd.func73 rfl trivial ?_ rfl
  simp only [Tryd.ntmps73, List.size_toArray, List.length_cons, List.length_nil, Nat.reduceAdd, Nat.reduceSub, Array.replicate_succ, Array.replicate_zero, List.push_toArray, List.append_toArray, List.nil_append, List.cons_append]
  gi_wp2
  clear hc
  gi_loopw [4, 9] (fun t i wr => ∃ (k : Nat) (pre : List (ReD d.size)), i = .int .i64 k ∧ t = .int .i64 (rsum d o k) ∧ k ≤ o.size ∧ Hid (valR pre = reachL d o k) ∧ Hid (J pre wr) ∧ Hid (ItR Bs b off cap bo d rest o wr)) (fun _ i _ => o.size - (Lib.intOf i).toNat)
  case atStart => exact ⟨0, [], rfl, rfl, Nat.zero_le _, rfl, HJ0.out, HI.out⟩
  case round =>
    obtain ⟨k, pre, rfl, rfl, hk, HV, HJk, HIk⟩ := hrel
    have hrs := rsum_bounds d o k
    obtain ⟨hr1, hr2⟩ := hrs
    by_cases hlt : k < o.size
    · have b0 := HIk.out.c0
      have b1 := HIk.out.c1
      have x0 := HIk.out.ord.cell k hlt
      obtain ⟨t, ht, htn⟩ := HORD.out.idx hlt
      rw [ht, Nat.zero_add] at x0
      have hx := HIk.out.row
      have y0 := hx.low t htn
      have y1 := hx.high t htn
      have y2 := hx.target t htn
      have y3 := hx.weight t htn
      have hcase := HO.out.case t htn
      obtain ⟨x, hxe⟩ : ∃ x, x = d[t]! := ⟨_, rfl⟩
      rw [← hxe] at y0 y1 y2 y3 hcase
      have HX := Lib.hid (show caseAt d o k = x by rw [caseAt, ht, Int.toNat_natCast, hxe])
      have HT := Lib.hid ht
      have hsum := Lib.hid (show rsum d o (k + 1) = rsum d o k + tcost x by rw [← HX.out]; rfl)
      obtain ⟨r, hr⟩ : ∃ r, r = rsum d o k := ⟨_, rfl⟩
      rw [← hr] at hr1 hr2 hsum ⊢
      have htb := tcost_bounds x
      obtain ⟨ht1, ht2⟩ := htb
      have l1 := caseB_low hcase
      have l2 := caseB_high hcase
      obtain ⟨tc, htc⟩ : ∃ tc, tc = tcost x := ⟨_, rfl⟩
      have hcall := fun W => testCost_any x W l1.1 l1.2 l2.1 l2.2
      rw [← htc] at ht1 ht2 hsum hcall
      have HCL := Lib.hid hcall
      have hpl : pre.length = k := by
        have h1 := congrArg List.length HV.out
        rw [reachL_length] at h1
        simpa [valR] using h1
      clear hxe hr htc hx ht hcall hcase l1 l2
      gi_wp2_with fail
      refine ⟨trivial, ?_⟩
      refine (callsIn_wide.2 (HCL.out wr)).mono ?_
      rintro e w2 ⟨rfl, hb2⟩
      have hI2 := HIk.out.below hb2
      have HI2 := Lib.hid hI2
      have HJ2 := Lib.hid (abidesR_below HJ.out HJk.out hb2)
      clear hb2 hI2
      obtain ⟨fn, tmps, assign, body, hy, hR⟩ := HY.out pre ⟨(t, r + tc), ⟨by simp, by simpa using htn⟩, by simp; omega, by simp; omega⟩ w2 HJ2.out (by omega)
      dsimp only [encR] at hy
      have HR := Lib.hid hR
      clear hR b0 b1 x0 y0 y1 y2 y3
      gi_wp2_with fail
      refine HR.out.mono ?_
      rintro e W3 (⟨rfl, hJ3, hk3⟩ | ⟨rfl, hJx3⟩)
      · have HI3 := Lib.hid (HI2.out.kp hk3)
        have HJ3 := Lib.hid hJ3
        clear hy hk3 hJ3 HR
        gi_wp2
        go_roundw
        case rel =>
          refine ⟨k + 1, _, by go_num, by rw [hsum.out], by omega, ?_, HJ3.out, HI3.out⟩
          show valR _ = _
          rw [valR_snoc, HV.out, reachL_succ, HT.out, hsum.out]
        case measure => simp [Lib.intOf]; omega
      · gi_wp2
        refine bodyPost_ret (results_none rfl _ _ _) rfl ?_
        refine ⟨⟨_, rfl⟩, .inr ⟨_, ⟨k + 1, by omega, ?_⟩, hJx3⟩⟩
        rw [valR_snoc, HV.out, reachL_succ, HT.out, hsum.out]
    · have hke : k = o.size := by omega
      subst hke
      gi_wp2
      go_end0
      exact ⟨⟨_, rfl⟩, .inl ⟨pre, HV.out, HJk.out⟩⟩

/-- What reaches hands back: each index of the order with the sum up to it. -/
theorem reaches_stops (n Bc Bs b off cap bo co : Nat) (d : Array CaseD) (rest : Int) (o : Array Int) (w : World) (hn : 1 ≤ n) (hok : SwOK d rest) (hord : OrdOK d.size o) (hc : w.cell? ⟨Bc, 0, none⟩ = some (.slice (some ⟨bo, 0, none⟩) o.size co)) (hBc : Bc < w.heap.size) (hI : ItR Bs b off cap bo d rest o w) :
    SeqStopsK Fence.wide n Tryd.prog 73 #[.pointer (some ⟨Bc, 0, none⟩), .pointer (some ⟨Bs, 0, none⟩)] (fun x : ReD d.size => #[Value.int .i64 x.1.1, .int .i64 x.1.2]) (KpS (KR Bs b bo)) (fun ys => valR ys = reachL d o o.size) (fun pre => ∃ k, k ≤ o.size ∧ valR pre = reachL d o k) 8 w := fun l J Jx W hW hJ _ hY h0 =>
  reaches_walk n Bc Bs b off cap bo co l d rest o hn hok hord J Jx _ hJ hY W ((hW.cell (p := ⟨Bc, 0, none⟩) hBc).trans hc) (hI.below hW) h0
end Go.Proofs.YthchhgjnelkmhaaDoor
