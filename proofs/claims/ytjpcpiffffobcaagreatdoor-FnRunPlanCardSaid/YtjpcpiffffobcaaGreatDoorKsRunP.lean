
/- RunPlan: which cluster tells a key; the program's and the model's. -/
import Derived.Test.YtjpcpiffffobcaaGreatDoorKsPof
import Derived.Test.YtjpcpiffffobcaaGreatDoorKsGo
namespace Go.Proofs.YtjpcpiffffobcaaGreatDoor
open Go.RowKit Go.Shelf Go.Lib Go.Sort

/-! mathematics -/
def spanQ (d : Array CaseD) (c : CluD) (key : Int) : Bool := decide (d[c.first.toNat]!.low ≤ key ∧ key ≤ d[c.last.toNat]!.high)
def findQ (d : Array CaseD) (q : Array CluD) (key : Int) : Int := match (List.range q.size).find? (fun j => spanQ d q[j]! key) with | some j => (j : Int) | none => -1
theorem findQ_hit {d : Array CaseD} {q : Array CluD} {key : Int} {k : Nat} (hk : k < q.size) (h : spanQ d q[k]! key = true) (hb : ∀ j, j < k → spanQ d q[j]! key = false) : findQ d q key = k := by
  have e : (List.range q.size).find? (fun j => spanQ d q[j]! key) = some k := by
    rw [List.find?_range_eq_some]
    exact ⟨h, List.mem_range.2 hk, fun j hj => by simpa using hb j hj⟩
  rw [findQ, e]
theorem findQ_miss {d : Array CaseD} {q : Array CluD} {key : Int} (hb : ∀ j, j < q.size → spanQ d q[j]! key = false) : findQ d q key = -1 := by
  have e : (List.range q.size).find? (fun j => spanQ d q[j]! key) = none := by
    rw [List.find?_eq_none]
    exact fun j hj => by simpa using hb j (List.mem_range.1 hj)
  rw [findQ, e]
theorem cover8 {d : Array CaseD} {rest : Int} {q : Array CluD} : ∀ {j : Nat}, okTo8 d rest q j → ∀ c : Nat, (c : Int) < nxtQ q j → ∃ i, i < j ∧ q[i]!.first ≤ c ∧ (c : Int) ≤ q[i]!.last
  | 0, _, c, hc => by simp [nxtQ] at hc; omega
  | j + 1, h, c, hc => by
    have hc2 : (c : Int) < q[j]!.last + 1 := hc
    by_cases h1 : (c : Int) < nxtQ q j
    · obtain ⟨i, h2, h3⟩ := cover8 (j := j) (fun i hi => h i (by omega)) c h1
      exact ⟨i, by omega, h3⟩
    · exact ⟨j, by omega, by rw [(h j (by omega)).1]; omega, by omega⟩
theorem low_mono {d : Array CaseD} {rest : Int} (h : SwOK d rest) {a b : Nat} (hab : a ≤ b) (hb : b < d.size) : d[a]!.low ≤ d[b]!.low ∧ d[a]!.high ≤ d[b]!.high := by
  rcases Nat.eq_or_lt_of_le hab with rfl | hlt
  · exact ⟨Int.le_refl _, Int.le_refl _⟩
  · have h1 := h.before hlt hb
    have h2 := caseB_le (h.case a (by omega))
    have h3 := caseB_le (h.case b hb)
    omega
theorem goes_none8 {d : Array CaseD} {rest : Int} {q : Array CluD} (h : planB d rest q = true) {key : Int} (hb : ∀ j, j < q.size → spanQ d q[j]! key = false) : goesN d key = zS := by
  obtain ⟨h1, h2, h3⟩ := (planB_iff _ _ _).1 h
  refine goesN_miss (atN_miss fun c hc => ?_)
  cases hh : hasB d[c]! key with
  | false => rfl
  | true =>
    obtain ⟨i, hi, h4, h5⟩ := cover8 h1 c (by rw [h3]; omega)
    have h6 := hb i hi
    obtain ⟨_, a, b, ha, hb', _, hbk, hat, hbt⟩ := hasB8_inQ (priceN_has (h1 i hi).2)
    have h7 : spanQ d q[i]! key = true := by
      have m1 := low_mono h2 (a := a) (b := c) (by omega) hc
      have m2 := low_mono h2 (a := c) (b := b) (by omega) hbk
      simp only [hasB, decide_eq_true_eq] at hh
      rw [spanQ, hat, hbt, decide_eq_true_eq]
      omega
    rw [h7] at h6
    cases h6
noncomputable def runOkQ (d : Array CaseD) (rest : Int) (q : Array CluD) (key : Int) : Bool := planB d rest q && keyB key
noncomputable def runTQ (d : Array CaseD) (rest : Int) (q : Array CluD) (key : Int) : ByteArray := if runOkQ d rest q key = true then goesN d key else ⟨#[]⟩
noncomputable def runKQ (d : Array CaseD) (rest : Int) (q : Array CluD) (key : Int) : Int := if runOkQ d rest q key = true then findQ d q key else 0
theorem ret3Q {a a' : ByteArray} {k k' : Int} {b b' : Bool} (h1 : a = a') (h2 : k = k') (h3 : b = b') : Ending.returned (.tuple #[.string a, .int .i64 k, .bool b]) = .returned (.tuple #[.string a', .int .i64 k', .bool b']) := by rw [h1, h2, h3]

/-! the program -/
set_option maxRecDepth 100000 in
set_option maxHeartbeats 1000000 in
theorem spanCl_any (b off cap : Nat) (d : Array CaseD) (rest key : Int) (i k : Nat) (s : ByteArray) (Bs Bk : Nat) (w : World) (hR : RowC w b off d) (hok : SwOK d rest) (hcap : d.size ≤ cap) (hik : i ≤ k) (hk : k < d.size)
    (hs0 : w.cell? ⟨Bs, 0, none⟩ = some (.slice (some ⟨b, off, none⟩) d.size cap)) (hs1 : w.cell? ⟨Bs, 1, none⟩ = some (.int .i64 rest)) (hk0 : w.cell? ⟨Bk, 0, none⟩ = some (.int .i64 key)) (hBs : Bs < w.heap.size) (hBk : Bk < w.heap.size) :
    Calls Tryz.prog 41 #[.agg #[.int .i64 i, .int .i64 k, .string s], .pointer (some ⟨Bs, 0, none⟩), .pointer (some ⟨Bk, 0, none⟩)] w fun x w' => x = .returned (.bool (spanQ d ⟨i, k, s⟩ key)) ∧ RowKit.Below w.heap.size w w' := by
  have HIN := Lib.hid (fun W => inC_any b off cap d rest i k s W hik hk hcap hok.size)
  have h0 : 0 < (subD d i k).size := by rw [subD_size hk]; omega
  have hsub := hok.sub (i := i) hk
  have HSP := Lib.hid (fun W (hW : RowKit.Below w.heap.size w W) => spanOf_any b (off + i * 4) (cap - i) (subD d i k) W ((hR.below hW).sub hk) h0 hsub.size)
  have e1 : (subD d i k)[0]!.low = d[i]!.low := by rw [subD_get hk (by omega), Nat.add_zero]
  have e2 : (subD d i k)[(subD d i k).size - 1]!.high = d[k]!.high := by rw [subD_size hk, subD_get hk (by omega), show i + (k + 1 - i - 1) = k by omega]
  rw [e1, e2] at HSP
  have HHS := Lib.hid (fun W => has_any ⟨d[i]!.low, d[k]!.high, ⟨#[]⟩, 0⟩ key W)
  have HR := Lib.hid (show spanQ d ⟨i, k, s⟩ key = hasB ⟨d[i]!.low, d[k]!.high, ⟨#[]⟩, 0⟩ key by simp [spanQ, hasB])
  obtain ⟨n, hn⟩ : ∃ n, n = (subD d i k).size := ⟨_, rfl⟩
  rw [← hn] at HIN HSP
  obtain ⟨lo, hlo⟩ : ∃ z, z = d[i]!.low := ⟨_, rfl⟩
  obtain ⟨hi, hhi⟩ : ∃ z, z = d[k]!.high := ⟨_, rfl⟩
  rw [← hlo, ← hhi] at HSP HHS HR
  obtain ⟨z, hz⟩ : ∃ z, z = hasB ⟨lo, hi, ⟨#[]⟩, 0⟩ key := ⟨_, rfl⟩
  rw [← hz] at HHS HR
  unfold aggC at HSP HHS
  obtain ⟨wa, hwa⟩ : ∃ wa, wa = w.alloc (.cells #[.int .i64 i, .int .i64 k, .string s] 45) := ⟨_, rfl⟩
  have hba : RowKit.Below w.heap.size w wa := by rw [hwa]; exact (Below.refl _ _).alloc (Nat.le_refl _) _
  have c0 : wa.cell? ⟨w.heap.size, 0, none⟩ = some (.int .i64 i) := by rw [hwa]; simp
  have c1 : wa.cell? ⟨w.heap.size, 1, none⟩ = some (.int .i64 k) := by rw [hwa]; simp
  have c2 : wa.cell? ⟨w.heap.size, 2, none⟩ = some (.string s) := by rw [hwa]; simp
  have hzz : w.heap.size < wa.heap.size := by rw [hwa]; simp
  have q0 := fun P : BW wa => P.cell (a := ⟨w.heap.size, 0, none⟩) hzz c0
  have q1 := fun P : BW wa => P.cell (a := ⟨w.heap.size, 1, none⟩) hzz c1
  have q2 := fun P : BW wa => P.cell (a := ⟨w.heap.size, 2, none⟩) hzz c2
  have q3 := fun P : BW wa => P.cell (a := ⟨Bs, 0, none⟩) (Nat.lt_of_lt_of_le hBs hba.size) ((hba.cell (p := ⟨Bs, 0, none⟩) hBs).trans hs0)
  have q4 := fun P : BW wa => P.cell (a := ⟨Bs, 1, none⟩) (Nat.lt_of_lt_of_le hBs hba.size) ((hba.cell (p := ⟨Bs, 1, none⟩) hBs).trans hs1)
  have q5 := fun P : BW wa => P.cell (a := ⟨Bk, 0, none⟩) (Nat.lt_of_lt_of_le hBk hba.size) ((hba.cell (p := ⟨Bk, 0, none⟩) hBk).trans hk0)
  have JSP := Lib.hid (fun P : BW wa => HSP.out P.W (hba.trans (P.h.mono hba.size)))
  have HWA := Lib.hid hwa
  have HBA := Lib.hid hba
  clear hwa hba c0 c1 c2 hs0 hs1 hk0 hlo hhi hz hn e1 e2 h0 hsub hR hok
  go_enter Tryz.func41, Tryz.ntmps41
  go_wp2_with fail
  rw [← HWA.out]
  refine wp_region_bw (by kernel_rfl) (by kernel_rfl) ?_
  repeat (go_big_quiet_step ((first | (go_at_call 43; with_reducible refine bw_of (HIN.out _)) | (go_at_call 42; with_reducible refine bw_of (JSP.out _)) | (go_at_call 44; with_reducible refine bw_of (HHS.out _)))))
  refine wpQuiet_nil ?_
  rintro _ ⟨P, rfl⟩
  have HB2 := Lib.hid (HBA.out.trans (P.h.mono HBA.out.size))
  go_wp2
  go_ret
  exact ⟨retB HR.out.symm, HB2.out⟩
set_option maxRecDepth 100000 in
set_option maxHeartbeats 1000000 in
theorem indexQ_any (pb po pc : Nat) (q : Array CluD) (Bs Bk : Nat) (d : Array CaseD) (key : Int) (w : World) (hQ : RowQ w pb po q) (hq : q.size ≤ 1048576)
    (hcl : ∀ j, j < q.size → ∀ W, RowKit.Below w.heap.size w W → Calls Tryz.prog 41 #[aggQ q[j]!, .pointer (some ⟨Bs, 0, none⟩), .pointer (some ⟨Bk, 0, none⟩)] W fun x w' => x = .returned (.bool (spanQ d q[j]! key)) ∧ RowKit.Below W.heap.size W w') :
    Calls Tryz.prog 40 #[.slice (some ⟨pb, po, none⟩) q.size pc, .func (.func 41) #[] #[.pointer (some ⟨Bs, 0, none⟩), .pointer (some ⟨Bk, 0, none⟩)]] w fun x w' => x = .returned (.int .i64 (findQ d q key)) ∧ RowKit.Below w.heap.size w w' := by
  have HQ := Lib.hid hQ
  have HCL := Lib.hid hcl
  have hqi : (q.size : Int) ≤ 1048576 := by omega
  clear hQ hcl
  go_enter Tryz.func40, Tryz.ntmps40
  go_wp2_with fail
  go_loopw [8] (fun x wr => ∃ j : Nat, x = .int .i64 j ∧ j ≤ q.size ∧ Hid (∀ i, i < j → spanQ d q[i]! key = false) ∧ Hid (RowKit.Below w.heap.size w wr) ∧ w.heap.size ≤ wr.heap.size) (fun x _ => q.size - (intOf x).toNat)
  case atStart => exact ⟨0, rfl, Nat.zero_le _, (fun i hi => absurd hi (Nat.not_lt_zero i)), Below.refl _ _, Nat.le_refl _⟩
  case round =>
    obtain ⟨j, rfl, hj, HN, HW, hw2⟩ := hrel
    by_cases hlt : j < q.size
    · have hx := HQ.out.below HW.out
      have x0 := hx.first j hlt
      have x1 := hx.last j hlt
      have x2 := hx.kind j hlt
      clear hx
      have hcall := HCL.out j hlt wr HW.out
      have HHIT := Lib.hid (fun h => @findQ_hit d q key j hlt h HN.out)
      have HNO := Lib.hid (show spanQ d q[j]! key = false → ∀ i, i < j + 1 → spanQ d q[i]! key = false from fun h i hi => by
        by_cases e : i = j
        · subst e; exact h
        · exact HN.out i (by omega))
      obtain ⟨c, hc⟩ : ∃ c, c = q[j]! := ⟨_, rfl⟩
      rw [← hc] at x0 x1 x2 hcall HHIT HNO
      have hji : (j : Int) < (q.size : Int) := by omega
      unfold aggQ at hcall
      cases hp : spanQ d c key with
      | true =>
        rw [hp] at hcall
        have HC := Lib.hid hcall
        have HRES := Lib.hid (HHIT.out hp)
        obtain ⟨cf, cl, ck⟩ := c
        simp only at *
        clear hc hcall hp
        go_wp2_with (refine HC.out.mono ?_; rintro y w2 ⟨rfl, hb⟩)
        go_ret
        exact ⟨retI HRES.out.symm, HW.out.trans (hb.mono hw2)⟩
      | false =>
        rw [hp] at hcall
        have HC := Lib.hid hcall
        have HRES := Lib.hid (HNO.out hp)
        obtain ⟨cf, cl, ck⟩ := c
        simp only at *
        clear hc hcall hp
        go_wp2_with (refine HC.out.mono ?_; rintro y w2 ⟨rfl, hb⟩)
        go_roundw
        case rel => exact ⟨j + 1, by go_num, by omega, HRES.out, HW.out.trans (hb.mono hw2), Nat.le_trans hw2 hb.size⟩
        case measure => simp [intOf]; omega
    · have hje : j = q.size := by omega
      subst hje
      have HRES := Lib.hid (findQ_miss HN.out)
      go_wp2_with fail
      go_ret
      exact ⟨retI HRES.out.symm, HW.out⟩
set_option maxRecDepth 100000 in
set_option maxHeartbeats 4000000 in
theorem implRunP_any (b off cap : Nat) (d : Array CaseD) (rest : Int) (pb po pc : Nat) (q : Array CluD) (key : Int) (w : World) (hR : RowC w b off d) (hE : ErrAt w) (hcap : d.size ≤ cap) (hmax : cap ≤ maxLen) (hQ : RowQ w pb po q) (hq : q.size ≤ 1048576) :
    Calls Tryz.prog 11 #[.agg #[.slice (some ⟨b, off, none⟩) d.size cap, .int .i64 rest], .slice (some ⟨pb, po, none⟩) q.size pc, .int .i64 key] w fun x w' => x = .returned (.tuple #[.string (runTQ d rest q key), .int .i64 (runKQ d rest q key), .bool (runOkQ d rest q key)]) ∧ RowKit.Below w.heap.size w w' := by
  have HPV := Lib.hid (fun W (hW : RowKit.Below w.heap.size w W) => implPval_any b off cap d rest pb po pc q W (hR.below hW) (hE.below hW) hcap hmax (hQ.below hW) hq)
  have HTG := Lib.hid (fun W (hW : RowKit.Below w.heap.size w W) => implTarget_any b off cap d rest key W (hR.below hW) (hE.below hW) hcap hmax)
  have HIK := Lib.hid (fun W => isKey_any key W)
  have HRO := Lib.hid (show runOkQ d rest q key = (planB d rest q && keyB key) from rfl)
  have HRT := Lib.hid (show runTQ d rest q key = if runOkQ d rest q key = true then goesN d key else ⟨#[]⟩ from rfl)
  have HRK := Lib.hid (show runKQ d rest q key = if runOkQ d rest q key = true then findQ d q key else 0 from rfl)
  obtain ⟨wa, hwa⟩ : ∃ wa, wa = (w.alloc (.cells #[.slice (some ⟨b, off, none⟩) d.size cap, .int .i64 rest] 32)).alloc (.cells #[.int .i64 key] 3) := ⟨_, rfl⟩
  have hba : RowKit.Below w.heap.size w wa := by rw [hwa]; exact ((Below.refl _ _).alloc (Nat.le_refl _) _).alloc (by simp) _
  have c0 : wa.cell? ⟨w.heap.size, 0, none⟩ = some (.slice (some ⟨b, off, none⟩) d.size cap) := by rw [hwa]; simp [go_sem]
  have c1 : wa.cell? ⟨w.heap.size, 1, none⟩ = some (.int .i64 rest) := by rw [hwa]; simp [go_sem]
  have c2 : wa.cell? ⟨w.heap.size + 1, 0, none⟩ = some (.int .i64 key) := by rw [hwa]; simp [go_sem]
  have hz : w.heap.size + 1 < wa.heap.size := by rw [hwa]; simp
  have HWA := Lib.hid hwa
  have HBA := Lib.hid hba
  cases hp : planB d rest q with
  | false =>
    have HO := Lib.hid (show runOkQ d rest q key = false by rw [HRO.out, hp]; rfl)
    rw [hp] at HPV
    clear hwa hba hR hE hcap hmax hQ hp
    go_enter Tryz.func11, Tryz.ntmps11
    go_wp2_with fail
    rw [← HWA.out]
    go_wp2_with fail
    refine (HPV.out _ HBA.out).mono ?_
    rintro y w1 ⟨rfl, hb⟩
    have HB := Lib.hid (HBA.out.trans (hb.mono HBA.out.size))
    clear hb c0 c1 c2
    go_wp2_with fail
    refine bodyPost_ret (v := .tuple #[.string ⟨#[]⟩, .int .i64 0, .bool false]) (by simp [results, Tryz.results11, go_sem]) rfl ⟨ret3Q (by rw [HRT.out, HO.out]; rfl) (by rw [HRK.out, HO.out]; rfl) HO.out.symm, HB.out⟩
  | true =>
    obtain ⟨hok1, hok2, hok3⟩ := (planB_iff _ _ _).1 hp
    cases hkk : keyB key with
    | false =>
      have HO := Lib.hid (show runOkQ d rest q key = false by rw [HRO.out, hp, hkk]; rfl)
      rw [hp] at HPV
      rw [hkk] at HIK
      clear hwa hba hR hE hcap hmax hQ hp hok1 hok2 hok3 hkk
      go_enter Tryz.func11, Tryz.ntmps11
      go_wp2_with fail
      rw [← HWA.out]
      go_wp2_with fail
      refine (HPV.out _ HBA.out).mono ?_
      rintro y w1 ⟨rfl, hb⟩
      have HB := Lib.hid (HBA.out.trans (hb.mono HBA.out.size))
      have e2 := (hb.cell (p := ⟨w.heap.size + 1, 0, none⟩) hz).trans c2
      clear hb c0 c1 c2
      go_wp2_with (go_at_call 39; refine (HIK.out _).mono ?_; rintro y w2 ⟨rfl, rfl⟩)
      refine bodyPost_ret (v := .tuple #[.string ⟨#[]⟩, .int .i64 0, .bool false]) (by simp [results, Tryz.results11, go_sem]) rfl ⟨ret3Q (by rw [HRT.out, HO.out]; rfl) (by rw [HRK.out, HO.out]; rfl) HO.out.symm, HB.out⟩
    | true =>
      have HO := Lib.hid (show runOkQ d rest q key = true by rw [HRO.out, hp, hkk]; rfl)
      have hov : okN d rest key = true := by rw [okN, hkk, (swB_iff _ _).2 hok2]; rfl
      have HTN := Lib.hid (show targetN d rest key = goesN d key by rw [targetN, if_pos hov])
      rw [hov] at HTG
      rw [hp] at HPV
      rw [hkk] at HIK
      have HCLO := Lib.hid (fun W (hW : RowKit.Below w.heap.size w W) (s0 : W.cell? ⟨w.heap.size, 0, none⟩ = some (.slice (some ⟨b, off, none⟩) d.size cap)) (s1 : W.cell? ⟨w.heap.size, 1, none⟩ = some (.int .i64 rest)) (k0 : W.cell? ⟨w.heap.size + 1, 0, none⟩ = some (.int .i64 key)) (hl : w.heap.size + 1 < W.heap.size) =>
        indexQ_any pb po pc q w.heap.size (w.heap.size + 1) d key W (hQ.below hW) hq (fun j hj W' hW' => by
          obtain ⟨_, a, c, ha, hc, hac, hcd, hat, hct⟩ := hasB8_inQ (priceN_has (hok1 j hj).2)
          have hspc := spanCl_any b off cap d rest key a c q[j]!.kind w.heap.size (w.heap.size + 1) W' (hR.below (hW.trans (hW'.mono hW.size))) hok2 hcap hac hcd ((hW'.cell (p := ⟨w.heap.size, 0, none⟩) (by show w.heap.size < W.heap.size; omega)).trans s0) ((hW'.cell (p := ⟨w.heap.size, 1, none⟩) (by show w.heap.size < W.heap.size; omega)).trans s1) ((hW'.cell (p := ⟨w.heap.size + 1, 0, none⟩) hl).trans k0) (by have := hW'.size; omega) (by have := hW'.size; omega)
          have hcj : q[j]! = ⟨a, c, q[j]!.kind⟩ := by
            cases hqj : q[j]! with
            | mk f l k =>
              rw [hqj] at ha hc
              simp only at ha hc
              rw [ha, hc]
          rw [hcj]
          exact hspc))
      obtain ⟨z, hzz⟩ : ∃ z, z = targetN d rest key := ⟨_, rfl⟩
      rw [← hzz] at HTG HTN
      clear hwa hba hR hE hcap hmax hQ hp hok1 hok2 hok3 hkk hov hzz
      go_enter Tryz.func11, Tryz.ntmps11
      go_wp2_with fail
      rw [← HWA.out]
      go_wp2_with fail
      refine (HPV.out _ HBA.out).mono ?_
      rintro y w1 ⟨rfl, hb⟩
      have HB := Lib.hid (HBA.out.trans (hb.mono HBA.out.size))
      have e0 := (hb.cell (p := ⟨w.heap.size, 0, none⟩) (Nat.lt_of_succ_lt hz)).trans c0
      have e1 := (hb.cell (p := ⟨w.heap.size, 1, none⟩) (Nat.lt_of_succ_lt hz)).trans c1
      have e2 := (hb.cell (p := ⟨w.heap.size + 1, 0, none⟩) hz).trans c2
      have hz1 : w.heap.size + 1 < w1.heap.size := Nat.lt_of_lt_of_le hz hb.size
      clear hb c0 c1 c2
      go_wp2_with (first
        | (go_at_call 39; refine (HIK.out _).mono ?_; rintro y w2 ⟨rfl, rfl⟩)
        | (go_at_call 30; refine (HTG.out _ HB.out).mono ?_; rintro y w2 ⟨rfl, hb2⟩; have HB2 := Lib.hid (HB.out.trans (hb2.mono HB.out.size)); have f0 := (hb2.cell (p := ⟨w.heap.size, 0, none⟩) (Nat.lt_of_succ_lt hz1)).trans e0; have f1 := (hb2.cell (p := ⟨w.heap.size, 1, none⟩) (Nat.lt_of_succ_lt hz1)).trans e1; have f2 := (hb2.cell (p := ⟨w.heap.size + 1, 0, none⟩) hz1).trans e2; have hz2 : w.heap.size + 1 < w2.heap.size := Nat.lt_of_lt_of_le hz1 hb2.size; clear hb2)
        | (go_at_call 40; refine (HCLO.out _ HB2.out f0 f1 f2 hz2).mono ?_; rintro y w3 ⟨rfl, hb3⟩; have HB3 := Lib.hid (HB2.out.trans (hb3.mono HB2.out.size)); clear hb3))
      refine bodyPost_ret (v := .tuple #[.string z, .int .i64 (findQ d q key), .bool true]) (by simp [results, Tryz.results11, go_sem]) rfl ⟨ret3Q (by rw [HTN.out, HRT.out, HO.out]; rfl) (by rw [HRK.out, HO.out]; rfl) HO.out.symm, HB3.out⟩
/-! the model -/
theorem inB_span (d : Array CaseD) (a c : Nat) (s : ByteArray) (key : Int) : inB key d[a]!.low d[c]!.high = spanQ d ⟨a, c, s⟩ key := by simp [inB, spanQ]
set_option maxRecDepth 100000 in
set_option maxHeartbeats 4000000 in
theorem specRunP_any (b off cap : Nat) (d : Array CaseD) (rest : Int) (pb po pc : Nat) (q : Array CluD) (key : Int) (w : World) (hR : RowC w b off d) (hcap : d.size ≤ cap) (hmax : cap ≤ maxLen) (hQ : RowQ w pb po q) (hq : q.size ≤ 1048576) :
    Calls Tryz.prog 8 #[.agg #[.slice (some ⟨b, off, none⟩) d.size cap, .int .i64 rest], .slice (some ⟨pb, po, none⟩) q.size pc, .int .i64 key] w fun x w' => x = .returned (.tuple #[.string (runTQ d rest q key), .int .i64 (runKQ d rest q key), .bool (runOkQ d rest q key)]) ∧ RowKit.Below w.heap.size w w' := by
  have HPV := Lib.hid (fun W (hW : RowKit.Below w.heap.size w W) => specPval_any b off cap d rest pb po pc q W (hR.below hW) hcap hmax (hQ.below hW) hq)
  have HIK := Lib.hid (fun W => l1Key_any key W)
  have HRO := Lib.hid (show runOkQ d rest q key = (planB d rest q && keyB key) from rfl)
  have HRT := Lib.hid (show runTQ d rest q key = if runOkQ d rest q key = true then goesN d key else ⟨#[]⟩ from rfl)
  have HRK := Lib.hid (show runKQ d rest q key = if runOkQ d rest q key = true then findQ d q key else 0 from rfl)
  have HQ := Lib.hid hQ
  have HR := Lib.hid hR
  have hqi : (q.size : Int) ≤ 1048576 := by omega
  obtain ⟨wa, hwa⟩ : ∃ wa, wa = w.alloc (.cells #[.slice (some ⟨b, off, none⟩) d.size cap, .int .i64 rest] 32) := ⟨_, rfl⟩
  have hba : RowKit.Below w.heap.size w wa := by rw [hwa]; exact (Below.refl _ _).alloc (Nat.le_refl _) _
  have c0 : wa.cell? ⟨w.heap.size, 0, none⟩ = some (.slice (some ⟨b, off, none⟩) d.size cap) := by rw [hwa]; simp
  have c1 : wa.cell? ⟨w.heap.size, 1, none⟩ = some (.int .i64 rest) := by rw [hwa]; simp
  have hz : w.heap.size < wa.heap.size := by rw [hwa]; simp
  have HWA := Lib.hid hwa
  have HBA := Lib.hid hba
  cases hp : planB d rest q with
  | false =>
    have HO := Lib.hid (show runOkQ d rest q key = false by rw [HRO.out, hp]; rfl)
    rw [hp] at HPV
    clear hwa hba hR hcap hmax hQ hp
    go_enter Tryz.func8, Tryz.ntmps8
    go_wp2_with fail
    rw [← HWA.out]
    go_wp2_with fail
    refine (HPV.out _ HBA.out).mono ?_
    rintro y w1 ⟨rfl, hb⟩
    have HB := Lib.hid (HBA.out.trans (hb.mono HBA.out.size))
    clear hb c0 c1
    go_wp2_with fail
    refine bodyPost_ret (v := .tuple #[.string ⟨#[]⟩, .int .i64 0, .bool false]) (by simp [results, Tryz.results8, go_sem]) rfl ⟨ret3Q (by rw [HRT.out, HO.out]; rfl) (by rw [HRK.out, HO.out]; rfl) HO.out.symm, HB.out⟩
  | true =>
    obtain ⟨hok1, hok2, hok3⟩ := (planB_iff _ _ _).1 hp
    cases hkk : keyB key with
    | false =>
      have HO := Lib.hid (show runOkQ d rest q key = false by rw [HRO.out, hp, hkk]; rfl)
      rw [hp] at HPV
      rw [hkk] at HIK
      clear hwa hba hR hcap hmax hQ hp hok1 hok2 hok3 hkk
      go_enter Tryz.func8, Tryz.ntmps8
      go_wp2_with fail
      rw [← HWA.out]
      go_wp2_with fail
      refine (HPV.out _ HBA.out).mono ?_
      rintro y w1 ⟨rfl, hb⟩
      have HB := Lib.hid (HBA.out.trans (hb.mono HBA.out.size))
      clear hb c0 c1
      go_wp2_with (go_at_call 34; refine (HIK.out _).mono ?_; rintro y w2 ⟨rfl, rfl⟩)
      refine bodyPost_ret (v := .tuple #[.string ⟨#[]⟩, .int .i64 0, .bool false]) (by simp [results, Tryz.results8, go_sem]) rfl ⟨ret3Q (by rw [HRT.out, HO.out]; rfl) (by rw [HRK.out, HO.out]; rfl) HO.out.symm, HB.out⟩
    | true =>
      have HO := Lib.hid (show runOkQ d rest q key = true by rw [HRO.out, hp, hkk]; rfl)
      have HNO := Lib.hid (fun hb => goes_none8 hp (key := key) hb)
      have HGO := Lib.hid (fun W (hW : RowKit.Below w.heap.size w W) => l1Goes_any b off cap d rest key W (hR.below hW) hok2.size)
      have HCLU := Lib.hid (fun j (hj : j < q.size) => (show ∃ a c : Nat, q[j]!.first = a ∧ q[j]!.last = c ∧ a ≤ c ∧ c < d.size from by
        obtain ⟨_, a, c, ha, hc, hac, hcd, _, _⟩ := hasB8_inQ (priceN_has (hok1 j hj).2)
        exact ⟨a, c, ha, hc, hac, hcd⟩))
      have h8 : (d.size : Int) ≤ 8 := by have := hok2.size; omega
      rw [hp] at HPV
      rw [hkk] at HIK
      clear hwa hba hR hcap hmax hQ hp hok1 hok2 hok3 hkk
      go_enter Tryz.func8, Tryz.ntmps8
      go_wp2_with fail
      rw [← HWA.out]
      go_wp2_with fail
      refine (HPV.out _ HBA.out).mono ?_
      rintro y w1 ⟨rfl, hb⟩
      have HB := Lib.hid (HBA.out.trans (hb.mono HBA.out.size))
      have e0 := (hb.cell (p := ⟨w.heap.size, 0, none⟩) hz).trans c0
      have e1 := (hb.cell (p := ⟨w.heap.size, 1, none⟩) hz).trans c1
      have hz1 : w.heap.size < w1.heap.size := Nat.lt_of_lt_of_le hz hb.size
      clear hb c0 c1
      go_wp2_with (go_at_call 34; refine (HIK.out _).mono ?_; rintro y w2 ⟨rfl, rfl⟩)
      go_loopw [22] (fun x wr => ∃ j : Nat, x = .int .i64 j ∧ j ≤ q.size ∧ Hid (∀ i, i < j → spanQ d q[i]! key = false) ∧ wr.cell? ⟨w.heap.size, 0, none⟩ = some (.slice (some ⟨b, off, none⟩) d.size cap) ∧ wr.cell? ⟨w.heap.size, 1, none⟩ = some (.int .i64 rest) ∧ Hid (RowKit.Below w.heap.size w wr) ∧ w.heap.size < wr.heap.size) (fun x _ => q.size - (intOf x).toNat)
      case atStart => exact ⟨0, rfl, Nat.zero_le _, (fun i hi => absurd hi (Nat.not_lt_zero i)), e0, e1, HB.out, hz1⟩
      case round =>
        obtain ⟨j, rfl, hj, HN, c0, c1, HW, hzr⟩ := hrel
        by_cases hlt : j < q.size
        · have hx := HQ.out.below HW.out
          have x0 := hx.first j hlt
          have x1 := hx.last j hlt
          have x2 := hx.kind j hlt
          clear hx
          obtain ⟨a, c, ha, hc, hac, hcd⟩ := HCLU.out j hlt
          have HHIT := Lib.hid (fun h => @findQ_hit d q key j hlt h HN.out)
          have HNOX := Lib.hid (show spanQ d q[j]! key = false → ∀ i, i < j + 1 → spanQ d q[i]! key = false from fun h i hi => by
            by_cases e : i = j
            · subst e; exact h
            · exact HN.out i (by omega))
          have hse : spanQ d q[j]! key = inB key d[a]!.low d[c]!.high := by
            rw [inB_span d a c q[j]!.kind key]
            cases hqj : q[j]! with
            | mk f l k =>
              rw [hqj] at ha hc
              simp only at ha hc
              rw [ha, hc]
          rw [hse] at HHIT HNOX
          rw [ha] at x0
          rw [hc] at x1
          obtain ⟨ck, hck⟩ : ∃ ck, ck = q[j]!.kind := ⟨_, rfl⟩
          rw [← hck] at x2
          have hrr := HR.out.below HW.out
          have y0 := hrr.low a (by omega)
          have y1 := hrr.high c hcd
          have hb0 := hrr.old
          obtain ⟨lo, hlo⟩ : ∃ z, z = d[a]!.low := ⟨_, rfl⟩
          obtain ⟨hi, hhi⟩ : ∃ z, z = d[c]!.high := ⟨_, rfl⟩
          rw [← hlo] at y0 HHIT HNOX
          rw [← hhi] at y1 HHIT HNOX
          have HIN := Lib.hid (fun W => l1In_any key lo hi W)
          have hji : (j : Int) < (q.size : Int) := by omega
          have hai : (a : Int) < (d.size : Int) := by omega
          have hci : (c : Int) < (d.size : Int) := by omega
          obtain ⟨wb, hwb⟩ : ∃ wb, wb = wr.alloc (.cells #[.int .i64 a, .int .i64 c, .string ck] 45) := ⟨_, rfl⟩
          have hbb : RowKit.Below wr.heap.size wr wb := by rw [hwb]; exact (Below.refl _ _).alloc (Nat.le_refl _) _
          have hzb : wr.heap.size < wb.heap.size := by rw [hwb]; simp
          have v0 : wb.cell? ⟨wr.heap.size, 0, none⟩ = some (.int .i64 a) := by rw [hwb]; simp
          have v1 : wb.cell? ⟨wr.heap.size, 1, none⟩ = some (.int .i64 c) := by rw [hwb]; simp
          have q0 := fun P : BW wb => P.cell (a := ⟨wr.heap.size, 0, none⟩) hzb v0
          have q1 := fun P : BW wb => P.cell (a := ⟨wr.heap.size, 1, none⟩) hzb v1
          have q2 := fun P : BW wb => P.cell (a := ⟨w.heap.size, 0, none⟩) (Nat.lt_of_lt_of_le hzr hbb.size) ((hbb.cell (p := ⟨w.heap.size, 0, none⟩) hzr).trans c0)
          have q3 := fun P : BW wb => P.cell (a := ⟨b, off + a * 4, none⟩) (Nat.lt_of_lt_of_le hb0 hbb.size) ((hbb.cell (p := ⟨b, off + a * 4, none⟩) hb0).trans y0)
          have q4 := fun P : BW wb => P.cell (a := ⟨b, off + c * 4 + 1, none⟩) (Nat.lt_of_lt_of_le hb0 hbb.size) ((hbb.cell (p := ⟨b, off + c * 4 + 1, none⟩) hb0).trans y1)
          have HWB := Lib.hid hwb
          have HBB := Lib.hid hbb
          clear hlo hhi hwb hbb v0 v1 y0 y1 hck hse ha hc
          go_wp2_with fail
          rw [← HWB.out]
          refine wp_region_bw (by kernel_rfl) (by kernel_rfl) ?_
          repeat (go_big_quiet_step ((go_at_call 35; refine bw_of ((HIN.out _).mono fun _ _ h => ⟨h.1, h.2 ▸ Below.refl _ _⟩))))
          refine wpQuiet_nil ?_
          rintro _ ⟨P, rfl⟩
          have hb2 := P.h
          generalize P.W = w3 at hb2 ⊢
          have hbw := HBB.out.trans (hb2.mono HBB.out.size)
          have C0 := (hbw.cell (p := ⟨w.heap.size, 0, none⟩) hzr).trans c0
          have C1 := (hbw.cell (p := ⟨w.heap.size, 1, none⟩) hzr).trans c1
          have HW3 := Lib.hid (HW.out.trans (hbw.mono HW.out.size))
          have hz3 : w.heap.size < w3.heap.size := Nat.lt_of_lt_of_le hzr hbw.size
          clear hb2 hbw c0 c1 q0 q1 q2 q3 q4 x0 x1 x2 hb0
          cases hin : inB key lo hi with
          | true =>
            have HF := Lib.hid (HHIT.out hin)
            clear hin
            go_wp2_with (go_at_call 36; refine (HGO.out _ HW3.out).mono ?_; rintro y w4 ⟨rfl, hb4⟩)
            refine bodyPost_ret (v := .tuple #[.string (goesN d key), .int .i64 j, .bool true]) (by simp [results, Tryz.results8, go_sem]) rfl ⟨ret3Q (by rw [HRT.out, HO.out]; rfl) (by rw [HRK.out, HO.out, if_pos rfl, HF.out]) HO.out.symm, HW3.out.trans (hb4.mono HW3.out.size)⟩
          | false =>
            have HF := Lib.hid (HNOX.out hin)
            clear hin
            go_wp2_with fail
            go_roundw
            case rel => exact ⟨j + 1, by go_num, by omega, HF.out, C0, C1, HW3.out, hz3⟩
            case measure => simp [intOf]; omega
        · have hje : j = q.size := by omega
          subst hje
          have HF := Lib.hid (findQ_miss HN.out)
          have HG := Lib.hid (HNO.out HN.out)
          go_wp2_with fail
          refine bodyPost_ret (v := .tuple #[.string zS, .int .i64 (-1), .bool true]) (by simp [results, Tryz.results8, go_sem]; rfl) rfl ⟨ret3Q (by rw [HRT.out, HO.out, if_pos rfl, HG.out]) (by rw [HRK.out, HO.out, if_pos rfl, HF.out]) HO.out.symm, HW.out⟩
end Go.Proofs.YtjpcpiffffobcaaGreatDoor
