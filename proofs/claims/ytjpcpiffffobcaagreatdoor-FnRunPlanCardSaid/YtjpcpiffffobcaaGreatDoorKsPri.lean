
/- Prices of clusters: what the kinds cost for some cases; the program's methods. -/
import Derived.Test.YtjpcpiffffobcaaGreatDoorKsCaseT
import Derived.Test.YtjpcpiffffobcaaGreatDoorKsTestA
import Derived.Test.YtjpcpiffffobcaaGreatDoorKsQuiet
import Derived.BigQuiet
namespace Go.Proofs.YtjpcpiffffobcaaGreatDoor
open Go.RowKit Go.Shelf Go.Lib Go.Sort

/-! some cases of an array -/
def subD (d : Array CaseD) (i k : Nat) : Array CaseD := d.extract i (k + 1)
theorem subD_size {d : Array CaseD} {i k : Nat} (hk : k < d.size) : (subD d i k).size = k + 1 - i := by simp [subD]; omega
theorem subD_get {d : Array CaseD} {i k j : Nat} (hk : k < d.size) (hj : j < k + 1 - i) : (subD d i k)[j]! = d[i + j]! := by
  have h1 : j < (subD d i k).size := by rw [subD_size hk]; exact hj
  rw [getElem!_pos _ j h1, getElem!_pos _ (i + j) (by omega)]
  simp [subD]
theorem RowC.sub {w : World} {b off : Nat} {d : Array CaseD} (h : RowC w b off d) {i k : Nat} (hk : k < d.size) : RowC w b (off + i * 4) (subD d i k) := by
  have hs : ∀ j, j < (subD d i k).size → j < k + 1 - i ∧ off + i * 4 + j * 4 = off + (i + j) * 4 ∧ i + j < d.size := fun j hj => by
    rw [subD_size hk] at hj
    exact ⟨hj, by omega, by omega⟩
  refine ⟨h.old, fun j hj => ?_, fun j hj => ?_, fun j hj => ?_, fun j hj => ?_⟩
  all_goals
    obtain ⟨h1, h2, h3⟩ := hs j hj
    rw [subD_get hk h1, h2]
  · exact h.low _ h3
  · exact h.high _ h3
  · exact h.target _ h3
  · exact h.weight _ h3
theorem SwOK.sub {d : Array CaseD} {rest : Int} (h : SwOK d rest) {i k : Nat} (hk : k < d.size) : SwOK (subD d i k) 0 := by
  have hsz := h.size
  refine ⟨by rw [subD_size hk]; omega, by rfl, fun j hj => ?_, fun j hj => ?_⟩
  · rw [subD_size hk] at hj
    rw [subD_get hk hj]
    exact h.case _ (by omega)
  · rw [subD_size hk] at hj
    rw [subD_get hk (by omega), subD_get hk hj]
    exact h.next (i + j) (by omega)

/-! prices -/
def spanE (e : Array CaseD) : Int := e[e.size - 1]!.high - e[0]!.low + 1
theorem spanE_bounds {e : Array CaseD} {r : Int} (h : SwOK e r) (h0 : 0 < e.size) : 1 ≤ spanE e ∧ spanE e ≤ 32 := by
  have a := caseB_low (h.case 0 h0)
  have b := caseB_high (h.case (e.size - 1) (by omega))
  have c := caseB_le (h.case 0 h0)
  have : e[0]!.low ≤ e[e.size - 1]!.high := by
    rcases Nat.eq_zero_or_pos (e.size - 1) with h1 | h1
    · rw [h1]; exact c
    · have := h.before (i := 0) (j := e.size - 1) h1 (by omega)
      have d := caseB_le (h.case (e.size - 1) (by omega))
      omega
  unfold spanE
  omega
def testE (e : Array CaseD) : Int := if e.size = 1 then 1 + tcost e[0]! else -1
def tableE (e : Array CaseD) : Int := 4 + (spanE e).tdiv 4
def bitsE (e : Array CaseD) : Int := if 16 < spanE e then -1 else 2 + 2 * ((lettersTo e 8).length : Int)
def testN8 : ByteArray := ⟨#[116, 101, 115, 116]⟩
def tableN8 : ByteArray := ⟨#[116, 97, 98, 108, 101]⟩
def bitsN8 : ByteArray := ⟨#[98, 105, 116, 115]⟩
def nameK : Nat → ByteArray
  | 0 => testN8
  | 1 => tableN8
  | _ => bitsN8
def priceE (e : Array CaseD) : Nat → Int
  | 0 => testE e
  | 1 => tableE e
  | _ => bitsE e
theorem testE_or (e : Array CaseD) : testE e = -1 ∨ (1 ≤ testE e ∧ testE e ≤ 18) := by
  have := tcost_bounds e[0]!
  unfold testE
  split <;> omega
theorem tableE_in {e : Array CaseD} {r : Int} (h : SwOK e r) (h0 : 0 < e.size) : 4 ≤ tableE e ∧ tableE e ≤ 12 := by
  have := spanE_bounds h h0
  unfold tableE
  have e1 : (spanE e).tdiv 4 = spanE e / 4 := Int.tdiv_eq_ediv_of_nonneg (by omega)
  omega
theorem bitsE_or (e : Array CaseD) : bitsE e = -1 ∨ (1 ≤ bitsE e ∧ bitsE e ≤ 18) := by
  have := lettersTo_length e 8
  unfold bitsE
  split <;> omega
theorem priceE_or {e : Array CaseD} {r : Int} (h : SwOK e r) (h0 : 0 < e.size) : ∀ j, priceE e j = -1 ∨ (1 ≤ priceE e j ∧ priceE e j ≤ 18)
  | 0 => testE_or e
  | 1 => by have := tableE_in h h0; show tableE e = -1 ∨ _ ; right; show 1 ≤ tableE e ∧ tableE e ≤ 18; omega
  | _ + 2 => bitsE_or e
/-- The best kind of the first j ones. -/
def bestTo8 (e : Array CaseD) : Nat → ByteArray × Int
  | 0 => (⟨#[]⟩, -1)
  | j + 1 => if priceE e j ≠ -1 ∧ ((bestTo8 e j).2 = -1 ∨ priceE e j < (bestTo8 e j).2) then (nameK j, priceE e j) else bestTo8 e j
theorem bestTo8_or {e : Array CaseD} {r : Int} (h : SwOK e r) (h0 : 0 < e.size) : ∀ j, (bestTo8 e j).2 = -1 ∨ (1 ≤ (bestTo8 e j).2 ∧ (bestTo8 e j).2 ≤ 18)
  | 0 => .inl rfl
  | j + 1 => by
    have a := bestTo8_or h h0 j
    have b := priceE_or h h0 j
    rw [bestTo8]
    split
    · exact b
    · exact a
def bestN8 (e : Array CaseD) : ByteArray := (bestTo8 e 3).1
def bestP8 (e : Array CaseD) : Int := (bestTo8 e 3).2

/-! the methods of the program -/
theorem retC8 {a b : Value} (h : a = b) : Ending.returned a = .returned b := by rw [h]
set_option maxRecDepth 100000 in
set_option maxHeartbeats 1000000 in
theorem spanOf_any (b off cap : Nat) (e : Array CaseD) (w : World) (hR : RowC w b off e) (h0 : 0 < e.size) (h8 : e.size ≤ 8) :
    Calls Tryz.prog 42 #[.slice (some ⟨b, off, none⟩) e.size cap] w fun x w' => x = .returned (aggC ⟨e[0]!.low, e[e.size - 1]!.high, ⟨#[]⟩, 0⟩) ∧ RowKit.Below w.heap.size w w' := by
  have x0 := hR.low 0 h0
  have x1 := hR.high (e.size - 1) (by omega)
  have ho := hR.old
  simp only [Nat.zero_mul, Nat.add_zero] at x0
  obtain ⟨n, hn⟩ : ∃ n, e.size = n + 1 := ⟨e.size - 1, by omega⟩
  have hn2 : e.size - 1 = n := by omega
  rw [hn2] at x1 ⊢
  rw [hn]
  have hni : ((n + 1 : Nat) : Int) - 1 = (n : Int) := by omega
  have hnp : (n : Int) < ((n + 1 : Nat) : Int) := by omega
  have hn8 : (n : Int) ≤ 8 := by omega
  obtain ⟨lo, hlo⟩ : ∃ z, z = e[0]!.low := ⟨_, rfl⟩
  obtain ⟨hi, hhi⟩ : ∃ z, z = e[n]!.high := ⟨_, rfl⟩
  rw [← hlo] at x0 ⊢
  rw [← hhi] at x1 ⊢
  unfold aggC
  clear hR hn hn2 hlo hhi h0 h8
  go_enter Tryz.func42, Tryz.ntmps42
  go_wp2
  go_region
  all_goals
    go_wp2
    refine bodyPost_ret (v := .agg #[.int .i64 lo, .int .i64 hi, .string ⟨#[]⟩, .int .i64 0]) (by simp [results, Tryz.results42, go_sem]) rfl ⟨rfl, ?_⟩
    exact ((Below.refl w.heap.size w).alloc (Nat.le_refl _) _).drew
theorem testName_any (w : World) : Calls Tryz.prog 152 #[.agg #[]] w fun x w' => x = .returned (.string testN8) ∧ RowKit.Below w.heap.size w w' := by
  go_enter Tryz.func152, Tryz.ntmps152
  go_wp2
  go_ret
  exact ⟨rfl, (Below.refl _ _).alloc (Nat.le_refl _) _⟩
theorem tableName_any (w : World) : Calls Tryz.prog 155 #[.agg #[]] w fun x w' => x = .returned (.string tableN8) ∧ RowKit.Below w.heap.size w w' := by
  go_enter Tryz.func155, Tryz.ntmps155
  go_wp2
  go_ret
  exact ⟨rfl, (Below.refl _ _).alloc (Nat.le_refl _) _⟩
theorem bitsName_any (w : World) : Calls Tryz.prog 157 #[.agg #[]] w fun x w' => x = .returned (.string bitsN8) ∧ RowKit.Below w.heap.size w w' := by
  go_enter Tryz.func157, Tryz.ntmps157
  go_wp2
  go_ret
  exact ⟨rfl, (Below.refl _ _).alloc (Nat.le_refl _) _⟩
set_option maxRecDepth 100000 in
set_option maxHeartbeats 1000000 in
theorem testPrice_any (b off cap : Nat) (e : Array CaseD) (r : Int) (w : World) (hR : RowC w b off e) (hok : SwOK e r) (h0 : 0 < e.size) :
    Calls Tryz.prog 153 #[.agg #[], .slice (some ⟨b, off, none⟩) e.size cap] w fun x w' => x = .returned (.int .i64 (testE e)) ∧ RowKit.Below w.heap.size w w' := by
  have h8 : (e.size : Int) ≤ 8 := by have := hok.size; omega
  by_cases h1 : e.size = 1
  · have HT := Lib.hid (show testE e = 1 + tcost e[0]! by rw [testE, if_pos h1])
    have x0 := hR.low 0 h0
    have x1 := hR.high 0 h0
    have x2 := hR.target 0 h0
    have x3 := hR.weight 0 h0
    have ho := hR.old
    simp only [Nat.zero_mul, Nat.add_zero] at x0 x1 x2 x3
    have c0 := caseB_low (hok.case 0 h0)
    have c1 := caseB_high (hok.case 0 h0)
    have hcall := Lib.hid (fun W => testCost_any e[0]! W c0.1 c0.2 c1.1 c1.2)
    have ht := tcost_bounds e[0]!
    obtain ⟨c, hc⟩ : ∃ c, c = e[0]! := ⟨_, rfl⟩
    rw [← hc] at x0 x1 x2 x3 hcall ht HT
    have hi1 : ((e.size : Int) == 1) = true := by simp [h1]
    have hi2 : ((e.size : Int) != 1) = false := by simp [h1]
    obtain ⟨z, hz⟩ : ∃ z, z = tcost c := ⟨_, rfl⟩
    rw [← hz] at hcall ht HT
    unfold aggC at hcall
    clear hc hR hok h0 h8 c0 c1 hz
    rw [h1]
    clear hi1 hi2 h1
    go_enter Tryz.func153, Tryz.ntmps153
    go_wp2_with (go_at_call 149; refine (hcall.out _).mono ?_; rintro y w' ⟨rfl, hb⟩; have HB := Lib.hid hb; clear hb)
    go_ret
    exact ⟨retI HT.out.symm, ((Below.refl _ _).alloc (Nat.le_refl _) _).trans (HB.out.mono (by simp))⟩
  · have HT := Lib.hid (show testE e = -1 by rw [testE, if_neg h1])
    have hi2 : ((e.size : Int) != 1) = true := by simp; omega
    have hi1 : ((e.size : Int) == 1) = false := by simp; omega
    clear hR hok h0 h1
    go_enter Tryz.func153, Tryz.ntmps153
    go_wp2_with fail
    go_ret
    exact ⟨retI HT.out.symm, (Below.refl _ _).alloc (Nat.le_refl _) _⟩
set_option maxRecDepth 100000 in
set_option maxHeartbeats 1000000 in
theorem tablePrice_any (b off cap : Nat) (e : Array CaseD) (r : Int) (w : World) (hR : RowC w b off e) (hok : SwOK e r) (h0 : 0 < e.size) :
    Calls Tryz.prog 156 #[.agg #[], .slice (some ⟨b, off, none⟩) e.size cap] w fun x w' => x = .returned (.int .i64 (tableE e)) ∧ RowKit.Below w.heap.size w w' := by
  have HSP := Lib.hid (fun W (hW : RowKit.Below w.heap.size w W) => spanOf_any b off cap e W (hR.below hW) h0 hok.size)
  have c0 := caseB_low (hok.case 0 h0)
  have c1 := caseB_high (hok.case (e.size - 1) (by omega))
  have HWD := Lib.hid (fun W => width_any ⟨e[0]!.low, e[e.size - 1]!.high, ⟨#[]⟩, 0⟩ W c0.1 c0.2 c1.1 c1.2)
  have hsp := spanE_bounds hok h0
  have HT := Lib.hid (show tableE e = 4 + (spanE e).tdiv 4 from rfl)
  have HE := Lib.hid (show e[e.size - 1]!.high - e[0]!.low + 1 = spanE e from rfl)
  simp only [HE.out] at HWD
  obtain ⟨z, hz⟩ : ∃ z, z = spanE e := ⟨_, rfl⟩
  rw [← hz] at HWD hsp HT
  obtain ⟨y1, hy1⟩ : ∃ y, y = e[0]!.low := ⟨_, rfl⟩
  obtain ⟨y2, hy2⟩ : ∃ y, y = e[e.size - 1]!.high := ⟨_, rfl⟩
  rw [← hy1, ← hy2] at HWD HSP
  unfold aggC at HSP HWD
  clear hy1 hy2 hz HE c0 c1 hR hok h0
  have hd : z.tdiv 4 = z / 4 := Int.tdiv_eq_ediv_of_nonneg (by omega)
  have hq0 : 0 ≤ z.tdiv 4 := by omega
  have hq1 : z.tdiv 4 ≤ 8 := by omega
  clear hd
  go_enter Tryz.func156, Tryz.ntmps156
  go_wp2_with fail
  refine (HSP.out _ ((Below.refl _ _).alloc (Nat.le_refl _) _)).mono ?_
  rintro y w1 ⟨rfl, hb1⟩
  have HB1 := Lib.hid (((Below.refl w.heap.size w).alloc (Nat.le_refl _) _).trans (hb1.mono (by simp)))
  clear hb1
  go_wp2_with fail
  refine (HWD.out _).mono ?_
  rintro y w2 ⟨rfl, hb2⟩
  have HB2 := Lib.hid (HB1.out.trans (hb2.mono HB1.out.size))
  clear hb2
  go_wp2_with fail
  go_ret
  exact ⟨retI HT.out.symm, HB2.out⟩
set_option maxRecDepth 100000 in
set_option maxHeartbeats 1000000 in
theorem bitsPrice_any (b off cap : Nat) (e : Array CaseD) (w : World) (hR : RowC w b off e) (hE : ErrAt w) (hok : SwOK e 0) (h0 : 0 < e.size) (hcap : e.size ≤ cap) (hmax : cap ≤ maxLen) :
    Calls Tryz.prog 158 #[.agg #[], .slice (some ⟨b, off, none⟩) e.size cap] w fun x w' => x = .returned (.int .i64 (bitsE e)) ∧ RowKit.Below w.heap.size w w' := by
  have HSP := Lib.hid (fun W (hW : RowKit.Below w.heap.size w W) => spanOf_any b off cap e W (hR.below hW) h0 hok.size)
  have HCT := Lib.hid (fun W (hW : RowKit.Below w.heap.size w W) => caseTargets_any b off cap e 0 W (hR.below hW) (hE.below hW) hcap hmax hok)
  have c0 := caseB_low (hok.case 0 h0)
  have c1 := caseB_high (hok.case (e.size - 1) (by omega))
  have HWD := Lib.hid (fun W => width_any ⟨e[0]!.low, e[e.size - 1]!.high, ⟨#[]⟩, 0⟩ W c0.1 c0.2 c1.1 c1.2)
  have hsp := spanE_bounds hok h0
  have HT := Lib.hid (show bitsE e = if 16 < spanE e then -1 else 2 + 2 * ((lettersTo e 8).length : Int) from rfl)
  have HE := Lib.hid (show e[e.size - 1]!.high - e[0]!.low + 1 = spanE e from rfl)
  have hln := lettersTo_length e 8
  have hsl : (strOf (lettersTo e 8)).size = (lettersTo e 8).length := strOf_size _
  simp only [HE.out] at HWD
  obtain ⟨z, hz⟩ : ∃ z, z = spanE e := ⟨_, rfl⟩
  rw [← hz] at HWD hsp HT
  obtain ⟨y1, hy1⟩ : ∃ y, y = e[0]!.low := ⟨_, rfl⟩
  obtain ⟨y2, hy2⟩ : ∃ y, y = e[e.size - 1]!.high := ⟨_, rfl⟩
  rw [← hy1, ← hy2] at HWD HSP
  obtain ⟨s, hs⟩ : ∃ s, s = strOf (lettersTo e 8) := ⟨_, rfl⟩
  obtain ⟨n, hn⟩ : ∃ n, n = (lettersTo e 8).length := ⟨_, rfl⟩
  rw [← hs] at HCT hsl
  rw [← hn] at hln hsl HT
  have hsz : (s.size : Int) ≤ 8 := by omega
  have HSZ := Lib.hid (show (s.size : Int) = n by omega)
  unfold aggC at HSP HWD
  clear hy1 hy2 hz hs hn hsl hln HE c0 c1 hR hok h0 hE hcap hmax
  by_cases h16 : 16 < z
  · have HT2 := Lib.hid (HT.out.trans (if_pos h16))
    go_enter Tryz.func158, Tryz.ntmps158
    go_wp2_with fail
    refine (HSP.out _ ((Below.refl _ _).alloc (Nat.le_refl _) _)).mono ?_
    rintro y w1 ⟨rfl, hb1⟩
    have HB1 := Lib.hid (((Below.refl w.heap.size w).alloc (Nat.le_refl _) _).trans (hb1.mono (by simp)))
    clear hb1
    go_wp2_with fail
    refine (HWD.out _).mono ?_
    rintro y w2 ⟨rfl, hb2⟩
    have HB2 := Lib.hid (HB1.out.trans (hb2.mono HB1.out.size))
    clear hb2
    go_wp2_with fail
    go_ret
    exact ⟨retI HT2.out.symm, HB2.out⟩
  · have HT2 := Lib.hid (HT.out.trans (if_neg h16))
    go_enter Tryz.func158, Tryz.ntmps158
    go_wp2_with fail
    refine (HSP.out _ ((Below.refl _ _).alloc (Nat.le_refl _) _)).mono ?_
    rintro y w1 ⟨rfl, hb1⟩
    have HB1 := Lib.hid (((Below.refl w.heap.size w).alloc (Nat.le_refl _) _).trans (hb1.mono (by simp)))
    clear hb1
    go_wp2_with fail
    refine (HWD.out _).mono ?_
    rintro y w2 ⟨rfl, hb2⟩
    have HB2 := Lib.hid (HB1.out.trans (hb2.mono HB1.out.size))
    clear hb2
    go_wp2_with fail
    refine (HCT.out _ HB2.out).mono ?_
    rintro y w3 ⟨rfl, hb3⟩
    have HB3 := Lib.hid (HB2.out.trans (hb3.mono HB2.out.size))
    clear hb3
    go_wp2_with fail
    go_ret
    exact ⟨retI (by rw [HT2.out, ← HSZ.out]), HB3.out⟩

/-! the kinds as values -/
theorem inv_tp (W : World) : Sem.run Tryz.prog (method 328 148 (.agg #[]) "loop.example/keyswitches/impl.price") W = .ok (153, .agg #[]) W := by kernel_rfl
theorem inv_bp (W : World) : Sem.run Tryz.prog (method 328 149 (.agg #[]) "loop.example/keyswitches/impl.price") W = .ok (156, .agg #[]) W := by kernel_rfl
theorem inv_cp (W : World) : Sem.run Tryz.prog (method 328 150 (.agg #[]) "loop.example/keyswitches/impl.price") W = .ok (158, .agg #[]) W := by kernel_rfl
theorem inv_tn (W : World) : Sem.run Tryz.prog (method 328 148 (.agg #[]) "loop.example/keyswitches/impl.name") W = .ok (152, .agg #[]) W := by kernel_rfl
theorem inv_bn (W : World) : Sem.run Tryz.prog (method 328 149 (.agg #[]) "loop.example/keyswitches/impl.name") W = .ok (155, .agg #[]) W := by kernel_rfl
theorem inv_cn (W : World) : Sem.run Tryz.prog (method 328 150 (.agg #[]) "loop.example/keyswitches/impl.name") W = .ok (157, .agg #[]) W := by kernel_rfl
theorem nil_t (W : World) : Sem.run Tryz.prog (nilAhead 328 148 (.agg #[]) "loop.example/keyswitches/impl.price") W = .ok (some false) W := by kernel_rfl
theorem nil_b (W : World) : Sem.run Tryz.prog (nilAhead 328 149 (.agg #[]) "loop.example/keyswitches/impl.price") W = .ok (some false) W := by kernel_rfl
theorem nil_c (W : World) : Sem.run Tryz.prog (nilAhead 328 150 (.agg #[]) "loop.example/keyswitches/impl.price") W = .ok (some false) W := by kernel_rfl
set_option maxHeartbeats 1000000 in
theorem kinds_any (w : World) : Calls Tryz.prog 81 #[] w fun x w' => x = .returned (.slice (some ⟨w.heap.size, 0, none⟩) 3 3) ∧ w' = w.alloc (.cells #[.iface 148 (.agg #[]), .iface 149 (.agg #[]), .iface 150 (.agg #[])] 123) := by
  go_enter Tryz.func81, Tryz.ntmps81
  go_wp2
  go_ret
  exact ⟨rfl, rfl⟩
set_option maxHeartbeats 1000000 in
theorem inC_any (b off cap : Nat) (d : Array CaseD) (rest : Int) (i k : Nat) (s : ByteArray) (w : World) (hik : i ≤ k) (hk : k < d.size) (hcap : d.size ≤ cap) (hd : d.size ≤ 8) :
    Calls Tryz.prog 43 #[.agg #[.int .i64 i, .int .i64 k, .string s], .agg #[.slice (some ⟨b, off, none⟩) d.size cap, .int .i64 rest]] w fun x w' => x = .returned (.slice (some ⟨b, off + i * 4, none⟩) (subD d i k).size (cap - i)) ∧ RowKit.Below w.heap.size w w' := by
  rw [subD_size hk]
  have h1 : (i : Int) ≤ 8 := by omega
  have h2 : (k : Int) ≤ 8 := by omega
  have h3 : (0 : Int) ≤ (i : Int) := by omega
  have h4 : (i : Int) ≤ (k : Int) + 1 := by omega
  have h5 : (k : Int) + 1 ≤ (cap : Int) := by omega
  go_enter Tryz.func43, Tryz.ntmps43
  go_wp2
  go_ret
  exact ⟨rfl, ((Below.refl _ _).alloc (Nat.le_refl _) _).alloc (by simp) _⟩
end Go.Proofs.YtjpcpiffffobcaaGreatDoor
