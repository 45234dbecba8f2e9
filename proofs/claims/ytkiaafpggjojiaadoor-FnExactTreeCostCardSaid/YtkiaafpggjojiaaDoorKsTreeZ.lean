
/- TreeCost of the model. -/
import Derived.Test.YtkiaafpggjojiaaDoorKsTreeU
import Derived.Test.YtkiaafpggjojiaaDoorKsTreeO
namespace Go.Proofs.YtkiaafpggjojiaaDoor
open Go.RowKit Go.Shelf

/-- What one segment adds. -/
def addT (t : TreeD) (c : CaseD) : Int := c.weight * ((trT t c.low).2 : Int)
def costT (t : TreeD) (l : List CaseD) : Int := l.foldl (fun n c => n + addT t c) 0
theorem costT_snoc (t : TreeD) (l : List CaseD) (c : CaseD) : costT t (l ++ [c]) = costT t l + addT t c := by simp [costT, List.foldl_append]
theorem costT_take_succ {t : TreeD} {l : List CaseD} {k : Nat} (h : k < l.length) : costT t (l.take (k + 1)) = costT t (l.take k) + addT t l[k]! := by
  rw [List.take_succ_eq_append_getElem h, costT_snoc, getElem!_pos l k h]
theorem addT_bound {t : TreeD} (ht : countT t ≤ 200) {c : CaseD} (hc : okB c = true) : 0 ≤ addT t c ∧ addT t c ≤ 19800 := by
  have h1 := run_depth t c.low
  have h2 := (count_text t).2
  have h := (okB_iff c).1 hc
  have hs : ((trT t c.low).2 : Int) ≤ 200 := by omega
  unfold addT
  refine ⟨Int.mul_nonneg h.2.2.2.1 (by omega), ?_⟩
  calc c.weight * ((trT t c.low).2 : Int) ≤ 99 * ((trT t c.low).2 : Int) := Int.mul_le_mul_of_nonneg_right h.2.2.2.2.1 (by omega)
    _ ≤ 19800 := by omega
theorem costT_bound {t : TreeD} (ht : countT t ≤ 200) (l : List CaseD) (h : ∀ c ∈ l, okB c = true) : 0 ≤ costT t l ∧ costT t l ≤ 19800 * l.length := by
  have key : ∀ (l : List CaseD) (a : Int), (∀ c ∈ l, okB c = true) → a ≤ l.foldl (fun n c => n + addT t c) a ∧ l.foldl (fun n c => n + addT t c) a ≤ a + 19800 * l.length := by
    intro l
    induction l with
    | nil => intro a _; simp
    | cons c l ih =>
      intro a h
      have hc := addT_bound ht (h c (by simp))
      have := ih (a + addT t c) (fun x hx => h x (by simp [hx]))
      simp only [List.foldl_cons, List.length_cons]
      omega
  have := key l 0 h
  simp only [costT]
  omega
theorem Box3.below {w w' : World} {B : Nat} {t : TypeId} {v0 v1 v2 : Value} (h : Box3 w B t v0 v1 v2) (hb : Below w.heap.size w w') : Box3 w' B t v0 v1 v2 := h.kept (grown_of_belowT hb none) (fun e => by cases e)
theorem retI0 {a b : Int} (h : a = b) : Ending.returned (Value.int .i64 a) = .returned (.int .i64 b) := by rw [h]
noncomputable def costO (o : Option TreeD) (d : Array CaseD) (rest : Int) : Int := match o with | none => -1 | some t => if swB d rest = true then costT t (segs d rest) else -1

set_option maxRecDepth 100000 in
set_option maxHeartbeats 1000000 in
theorem cost4_any (t : TreeD) (ht : countT t ≤ 200) (l : List CaseD) (b off cap bb : Nat) (tg : ByteArray) (kk : Int) (sd : Value) (w : World) (hS : SegsAt w b off l) (hN : NodeIs bb w t tg kk sd) (h17 : l.length ≤ 17) (hok : ∀ c ∈ l, okB c = true) :
    Calls Tryd.prog 60 #[.slice (some ⟨b, off, none⟩) l.length cap, .agg #[.string tg, .int .i64 kk, sd]] w fun x w' => x = .returned (.int .i64 (costT t l)) ∧ Below w.heap.size w w' := by
  obtain ⟨na, nn, nc, rfl⟩ := hN.slice
  have hni : ((l.length : Nat) : Int) ≤ 17 := by omega
  have HRUN := Lib.hid (fun (key : Int) W (hW : Below w.heap.size w W) => run_any key t (by omega) bb W tg kk (.slice na nn nc) (hN.below hW))
  have HWB := Lib.hid (fun k => costT_bound ht (l.take k) (fun c hc => hok c (List.mem_of_mem_take hc)))
  have HWS := Lib.hid (fun k (h : k < l.length) => costT_take_succ (t := t) h)
  have HAB := Lib.hid (fun k (h : k < l.length) => addT_bound ht (hok l[k]! (by rw [getElem!_pos l k h]; exact List.getElem_mem _)))
  have HOKI := Lib.hid (fun k (h : k < l.length) => (okB_iff _).1 (hok l[k]! (by rw [getElem!_pos l k h]; exact List.getElem_mem _)))
  have HST := Lib.hid (fun key : Int => show ((trT t key).2 : Int) ≤ 200 by have := run_depth t key; have := (count_text t).2; omega)
  obtain ⟨wa, hwa⟩ : ∃ wa, wa = w.alloc (.cells #[.string tg, .int .i64 kk, .slice na nn nc] 57) := ⟨_, rfl⟩
  have hba : Below w.heap.size w wa := by rw [hwa]; exact (Below.refl _ _).alloc (Nat.le_refl _) _
  have X : Box3 wa w.heap.size 57 (.string tg) (.int .i64 kk) (.slice na nn nc) := by rw [hwa]; exact Box3.new _ _ _ _ _
  have HS := Lib.hid (hS.below hba)
  have HX := Lib.hid X
  have HBA := Lib.hid hba
  have HWA := Lib.hid hwa
  have hz : w.heap.size < wa.heap.size := X.lt
  obtain ⟨n, hn⟩ : ∃ n, n = l.length := ⟨_, rfl⟩
  rw [← hn] at hni h17 HWS HOKI HAB ⊢
  have HN := Lib.hid hn
  clear hn hS hok hN ht hba X hwa
  go_enter Tryd.func60, Tryd.ntmps60
  go_wp2_with fail
  rw [← HWA.out]
  go_loopw [5, 12] (fun bh ix wr => ∃ k : Nat, ix = .int .i64 k ∧ bh = .int .i64 (costT t (l.take k)) ∧ k ≤ n ∧ Hid (Below wa.heap.size wa wr)) (fun _ ix _ => n - (RowKit.intOf ix).toNat)
  case atStart => exact ⟨0, rfl, by simp [costT], Nat.zero_le _, Lib.hid (Below.refl _ _)⟩
  case round =>
    obtain ⟨k, rfl, rfl, hk, HW⟩ := hrel
    have hwb := HWB.out k
    have hlen : (l.take k).length ≤ 17 := by rw [List.length_take]; omega
    have hX1 := Box3.below HX.out HW.out
    have x0 := hX1.c0
    have x1 := hX1.c1
    have x2 := hX1.c2
    obtain ⟨ws, hws⟩ : ∃ ws, ws = costT t (l.take k) := ⟨_, rfl⟩
    rw [← hws] at hwb ⊢
    have hw0 : 0 ≤ ws := hwb.1
    have hw1 : ws ≤ 336600 := by omega
    by_cases hlt : k < n
    · have hr := HS.out.below HW.out
      have e0 : l.toArray[k]! = l[k]! := by simp
      have hks : k < l.toArray.size := by have := HN.out; simp; omega
      have y0 := hr.low k hks
      have y1 := hr.high k hks
      have y2 := hr.target k hks
      have y3 := hr.weight k hks
      rw [e0] at y0 y1 y2 y3
      have hc := HOKI.out k hlt
      have hab := HAB.out k hlt
      have HS1 := Lib.hid (show costT t (l.take (k + 1)) = ws + addT t l[k]! by rw [hws]; exact HWS.out k hlt)
      obtain ⟨c, hcc⟩ : ∃ c, c = l[k]! := ⟨_, rfl⟩
      rw [← hcc] at y0 y1 y2 y3 hc HS1 hab
      obtain ⟨lo, hi, tc, wt⟩ := c
      simp only [addT] at y0 y1 y2 y3 hc HS1 hab
      have hst := HST.out lo
      have HR := Lib.hid (HRUN.out lo)
      obtain ⟨out, hout⟩ : ∃ out, out = (trT t lo).1 := ⟨_, rfl⟩
      obtain ⟨st, hstt⟩ : ∃ st, st = (trT t lo).2 := ⟨_, rfl⟩
      rw [← hout, ← hstt] at HR
      rw [← hstt] at hst hab HS1
      have hwt0 : 0 ≤ wt := hc.2.2.2.1
      have hwt1 : wt ≤ 99 := hc.2.2.2.2.1
      have hab0 := hab.1
      have hab1 := hab.2
      have hki : (k : Int) < (n : Int) := by omega
      obtain ⟨W1, hW1⟩ : ∃ W1, W1 = wr.alloc (.cells #[.int .i64 lo, .int .i64 hi, .string tc, .int .i64 wt] 81) := ⟨_, rfl⟩
      have hz1 : wr.heap.size < W1.heap.size := by rw [hW1]; simp
      have hbw : Below wr.heap.size wr W1 := by rw [hW1]; exact (Below.refl _ _).alloc (Nat.le_refl _) _
      have z0 : W1.cell? ⟨wr.heap.size, 0, none⟩ = some (.int .i64 lo) := by rw [hW1]; simp
      have z3 : W1.cell? ⟨wr.heap.size, 3, none⟩ = some (.int .i64 wt) := by rw [hW1]; simp
      have hX2 := Box3.below hX1 hbw
      have v0 := hX2.c0
      have v1 := hX2.c1
      have v2 := hX2.c2
      rw [hW1] at v0 v1 v2
      have HBW := Lib.hid (HW.out.trans (hbw.mono HW.out.size))
      have HBA2 := Lib.hid (HBA.out.trans (HBW.out.mono (Nat.le_of_lt hz)))
      have HW1 := Lib.hid hW1
      clear hr e0 hks hc hcc hws hwb hlen hout hstt hX1 hX2 hW1 hbw hab
      go_wp2_with fail
      rw [← HW1.out]
      refine (HR.out _ HBA2.out).mono ?_
      rintro x w3 ⟨rfl, hb3⟩
      have hb3' : Below W1.heap.size W1 w3 := hb3
      have HB3 := Lib.hid (HBW.out.trans (hb3'.mono HBW.out.size))
      have r3 := (hb3'.cell (p := ⟨wr.heap.size, 3, none⟩) hz1).trans z3
      clear hb3 hb3'
      go_wp2_with fail
      go_roundw
      case rel => exact ⟨k + 1, by go_num, by rw [HS1.out], by omega, HB3⟩
      case measure => simp [RowKit.intOf]; omega
    · have hke : k = n := by omega
      have HWT := Lib.hid (show ws = costT t l by rw [hws, hke, HN.out, List.take_length])
      clear hws hwb hlen hke
      go_wp2_with fail
      go_ret
      exact ⟨by rw [← HWT.out]; rfl, HBA.out.trans (HW.out.mono (Nat.le_of_lt hz))⟩

set_option maxRecDepth 100000 in
set_option maxHeartbeats 1000000 in
theorem specCost4_any (b off cap : Nat) (d : Array CaseD) (rest : Int) (s : ByteArray) (hs : s.size ≤ 2000000) (w : World) (hR : RowC w b off d) (hcap : d.size ≤ cap) (hmax : cap ≤ maxLen) :
    Calls Tryd.prog 23 #[.agg #[.slice (some ⟨b, off, none⟩) d.size cap, .int .i64 rest], .string s] w fun x w' => x = .returned (.int .i64 (costO (treeS (ls s)) d rest)) ∧ Below w.heap.size w w' := by
  have hv := fun W (hW : RowKit.Below w.heap.size w W) => specValid_any b off cap d rest W (hR.below hW) hcap hmax
  have hk := fun W (hW : RowKit.Below w.heap.size w W) (ho : SwOK d rest) => l2Segments_any b off cap d rest W (hR.below hW) ho
  have HK := Lib.hid hk
  have HC := Lib.hid (fun W => specRead_any s hs W)
  obtain ⟨wa, hwa⟩ : ∃ wa, wa = w.alloc (.cells #[.slice (some ⟨b, off, none⟩) d.size cap, .int .i64 rest] 34) := ⟨_, rfl⟩
  have c0 : wa.cell? ⟨w.heap.size, 0, none⟩ = some (.slice (some ⟨b, off, none⟩) d.size cap) := by rw [hwa]; simp
  have c1 : wa.cell? ⟨w.heap.size, 1, none⟩ = some (.int .i64 rest) := by rw [hwa]; simp
  have hz : w.heap.size < wa.heap.size := by rw [hwa]; simp
  have hba : RowKit.Below w.heap.size w wa := by rw [hwa]; exact (Below.refl _ _).alloc (Nat.le_refl _) _
  have HA := Lib.hid hba
  have C0 := Lib.hid c0
  have C1 := Lib.hid c1
  have HWA := Lib.hid hwa
  clear hba c0 c1 hwa hR hk
  cases ho : treeS (ls s) with
  | none =>
    rw [ho] at HC
    go_enter Tryd.func23, Tryd.ntmps23
    go_wp2_with fail
    rw [← HWA.out]
    refine (HC.out _).mono ?_
    rintro x w' ⟨hx, hb⟩
    obtain rfl : x = .returned (.tuple #[.agg #[.string ⟨#[]⟩, .int .i64 0, .slice none 0 0], .bool false]) := hx
    have HWB := Lib.hid (HA.out.trans (hb.mono HA.out.size))
    clear hb
    go_wp2_with fail
    go_ret
    exact ⟨rfl, HWB.out.alloc HWB.out.size _⟩
  | some t =>
    rw [ho] at HC
    have hct := treeS_count ho
    cases hs : swB d rest
    all_goals
      simp only [hs] at hv
      have HV := Lib.hid hv
      have HS := Lib.hid hs
      clear hv hs
      go_enter Tryd.func23, Tryd.ntmps23
      go_wp2_with fail
      rw [← HWA.out]
      refine (HC.out _).mono ?_
      rintro x w1 ⟨⟨tg, k, sd, rfl, ht⟩, hb⟩
      obtain ⟨a, n, c, rfl⟩ := ht.slice
      have hz1 : w.heap.size < w1.heap.size := Nat.lt_of_lt_of_le hz hb.size
      have a0 := (hb.cell (p := ⟨w.heap.size, 0, none⟩) hz).trans C0.out
      have a1 := (hb.cell (p := ⟨w.heap.size, 1, none⟩) hz).trans C1.out
      obtain ⟨w2, hw2⟩ : ∃ w2, w2 = w1.alloc (.cells #[.string tg, .int .i64 k, .slice a n c] 57) := ⟨_, rfl⟩
      have hba : Below w1.heap.size w1 w2 := by rw [hw2]; exact (Below.refl _ _).alloc (Nat.le_refl _) _
      have X : Box3 w2 w1.heap.size 57 (.string tg) (.int .i64 k) (.slice a n c) := by rw [hw2]; exact Box3.new _ _ _ _ _
      have HB := Lib.hid (HA.out.trans ((hb.trans (hba.mono hb.size)).mono HA.out.size))
      have HT := Lib.hid (ht.below hba)
      have HX := Lib.hid X
      have b0 := (hba.cell (p := ⟨w.heap.size, 0, none⟩) hz1).trans a0
      have b1 := (hba.cell (p := ⟨w.heap.size, 1, none⟩) hz1).trans a1
      have B0 := Lib.hid b0
      have B1 := Lib.hid b1
      have hz2 : w.heap.size < w2.heap.size := Nat.lt_of_lt_of_le hz1 hba.size
      rw [hw2] at b0 b1
      have HW2 := Lib.hid hw2
      clear hb ht hba X hw2
      go_wp2_with fail
      rw [← HW2.out]
      refine (HV.out _ HB.out).mono ?_
      rintro x w3 ⟨rfl, hb3⟩
      have HB3 := Lib.hid (HB.out.trans (hb3.mono HB.out.size))
      have HT3 := Lib.hid (HT.out.below hb3)
      have HX3 := Lib.hid (Box3.below HX.out hb3)
      have hz3 : w.heap.size < w3.heap.size := Nat.lt_of_lt_of_le hz2 hb3.size
      have c0 := (hb3.cell (p := ⟨w.heap.size, 0, none⟩) hz2).trans B0.out
      have c1 := (hb3.cell (p := ⟨w.heap.size, 1, none⟩) hz2).trans B1.out
      clear hb3 b0 b1
      go_wp2_with fail
    · go_ret
      exact ⟨retI0 (a := -1) (by simp [costO, HS.out]), HB3.out⟩
    · have hok := (swB_iff _ _).1 HS.out
      have hpos := segs_pos hok
      have h17 := segs_length hok
      have HOK := Lib.hid (segs_ok hok)
      have x0 := HX3.out.c0
      have x1 := HX3.out.c1
      have x2 := HX3.out.c2
      have HB3d := Lib.hid HB3.out.drew
      have hCO : costO (some t) d rest = costT t (segs d rest) := by simp [costO, HS.out]
      have HCO := Lib.hid hCO
      have HC4 := Lib.hid (fun g cp W (h1 : SegsAt W g 0 (segs d rest)) (h2 : NodeIs wa.heap.size W t tg k (.slice a n c)) => cost4_any t hct (segs d rest) g 0 cp wa.heap.size tg k (.slice a n c) W h1 h2 h17 HOK.out)
      obtain ⟨N, hN⟩ : ∃ N, N = w1.heap.size := ⟨_, rfl⟩
      rw [← hN] at x0 x1 x2 ⊢
      have hNl : N < w3.heap.size := by rw [hN]; exact HX3.out.lt
      obtain ⟨ct, hct2⟩ : ∃ ct, ct = costT t (segs d rest) := ⟨_, rfl⟩
      rw [← hct2] at HC4 HCO
      obtain ⟨m, hm⟩ : ∃ m, m = (segs d rest).length := ⟨_, rfl⟩
      rw [← hm] at HC4
      have HM := Lib.hid hm
      have HPOS := Lib.hid hpos
      have HOK0 := Lib.hid hok
      clear hct2 hm hpos h17 hok hCO hN hct ho
      have HX := Lib.hid hz
      go_region_held3 (fun w' => w'.cell? ⟨w.heap.size, 0, none⟩ = some (.slice (some ⟨b, off, none⟩) d.size cap) ∧ w'.cell? ⟨w.heap.size, 1, none⟩ = some (.int .i64 rest) ∧ w'.cell? ⟨N, 0, none⟩ = some (.string tg) ∧ w'.cell? ⟨N, 1, none⟩ = some (.int .i64 k) ∧ w'.cell? ⟨N, 2, none⟩ = some (.slice a n c)) (first | exact ⟨c0, c1, x0, x1, x2⟩ | exact Y4.out | exact Y5.out | go_keep) (first
        | (go_at_call 61; (with_reducible refine (HK.out _ HB3d.out HOK0.out).mono ?_); rintro _ w4 ⟨v, rfl, hown, _, b4⟩; obtain ⟨g, cp, rfl, hrow, _, _⟩ := segs_row hown HPOS.out; have hb4 : Below w3.heap.size w3 w4 := ⟨b4.os, b4.tape, b4.output, b4.size, b4.block⟩; have HB4 := Lib.hid (HB3.out.trans (hb4.mono HB3.out.size)); have HT4 := Lib.hid (HT3.out.below hb4); have HROW := Lib.hid hrow; have Y4 := Lib.hid (And.intro ((hb4.cell (p := ⟨w.heap.size, 0, none⟩) hz3).trans c0) (And.intro ((hb4.cell (p := ⟨w.heap.size, 1, none⟩) hz3).trans c1) (And.intro ((hb4.cell (p := ⟨N, 0, none⟩) hNl).trans x0) (And.intro ((hb4.cell (p := ⟨N, 1, none⟩) hNl).trans x1) ((hb4.cell (p := ⟨N, 2, none⟩) hNl).trans x2))))); have hz4 : w.heap.size < w4.heap.size := Nat.lt_of_lt_of_le hz3 hb4.size; have hNl4 : N < w4.heap.size := Nat.lt_of_lt_of_le hNl hb4.size; rw [← HM.out]; clear b4 hb4 hown hrow)
        | (go_at_call 60; (with_reducible refine (HC4.out _ _ _ HROW.out HT4.out).mono ?_); rintro _ w5 ⟨rfl, b5⟩; have hb5 : Below w4.heap.size w4 w5 := ⟨b5.os, b5.tape, b5.output, b5.size, b5.block⟩; have HB5 := Lib.hid (HB4.out.trans (hb5.mono HB4.out.size)); have Y5 := Lib.hid (And.intro ((hb5.cell (p := ⟨w.heap.size, 0, none⟩) hz4).trans Y4.out.1) (And.intro ((hb5.cell (p := ⟨w.heap.size, 1, none⟩) hz4).trans Y4.out.2.1) (And.intro ((hb5.cell (p := ⟨N, 0, none⟩) hNl4).trans Y4.out.2.2.1) (And.intro ((hb5.cell (p := ⟨N, 1, none⟩) hNl4).trans Y4.out.2.2.2.1) ((hb5.cell (p := ⟨N, 2, none⟩) hNl4).trans Y4.out.2.2.2.2))))); clear b5 hb5))
      all_goals
        go_wp2
        go_ret
        exact ⟨retI0 HCO.out.symm, HB5.out⟩
end Go.Proofs.YtkiaafpggjojiaaDoor
