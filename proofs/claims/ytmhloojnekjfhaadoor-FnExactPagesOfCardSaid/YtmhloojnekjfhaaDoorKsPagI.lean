
/- PagedSize and BestPage of the program, behind its PagesOf. -/
import Derived.Test.YtmhloojnekjfhaaDoorKsPagB
namespace Go.Proofs.YtmhloojnekjfhaaDoor
open Go.RowKit Go.Shelf Go.Lib Go.Sort

/-- What the program's PagesOf answers for this switch, from a world on. -/
def PagesFn (b off cap : Nat) (d : Array CaseD) (rest : Int) (w : World) : Prop := ∀ (size : Int) W, RowKit.Below w.heap.size w W →
  Calls Tryd.prog 8 #[.agg #[.slice (some ⟨b, off, none⟩) d.size cap, .int .i64 rest], .int .i64 size] W (Pag3 W.heap.size (pagesN d rest size) (indexN d rest size) (pagB d rest size) W)
theorem PagesFn.below {b off cap : Nat} {d : Array CaseD} {rest : Int} {w w' : World} (h : PagesFn b off cap d rest w) (hb : RowKit.Below w.heap.size w w') : PagesFn b off cap d rest w' := fun size W hW => h size W (hb.trans (hW.mono hb.size))

set_option maxRecDepth 100000 in
set_option maxHeartbeats 2000000 in
theorem implPSize_of (b off cap : Nat) (d : Array CaseD) (rest size : Int) (w : World) (hP : PagesFn b off cap d rest w) :
    Calls Tryd.prog 10 #[.agg #[.slice (some ⟨b, off, none⟩) d.size cap, .int .i64 rest], .int .i64 size] w fun x w' => x = .returned (.int .i64 (entN d rest size)) ∧ RowKit.Below w.heap.size w w' := by
  obtain ⟨wa, hwa⟩ : ∃ wa, wa = w.alloc (.cells #[.slice (some ⟨b, off, none⟩) d.size cap, .int .i64 rest] 25) := ⟨_, rfl⟩
  have hba : RowKit.Below w.heap.size w wa := by rw [hwa]; exact (Below.refl _ _).alloc (Nat.le_refl _) _
  have hk := hP size wa hba
  have HA := Lib.hid hba
  have HWA := Lib.hid hwa
  clear hba hwa hP
  by_cases hpb : pagB d rest size = true
  · have hpb2 := hpb
    simp only [pagB, Bool.and_eq_true] at hpb2
    obtain ⟨sz, n, rfl, h1, h2, h3, h4⟩ := size_nat hpb2.2
    have hl := pagesTo_length d sz n
    have hmul : (pagesTo d sz n).length * sz ≤ n * sz := Nat.mul_le_mul_right _ hl
    rw [Nat.mul_comm n sz, h1] at hmul
    have hn32 : n ≤ 32 := Nat.le_of_dvd (by decide) ⟨sz, by rw [Nat.mul_comm]; exact h1.symm⟩
    have HE := Lib.hid (show entN d rest (sz : Int) = ((pagesTo d sz n).length : Int) * (sz : Int) + (n : Int) by rw [entN, if_pos hpb, entZ, pagL, idxL, Int.toNat_natCast, h2, indexTo_length])
    rw [hpb, show pagesN d rest (sz : Int) = pagesTo d sz n by rw [pagesN, if_pos hpb, pagL, Int.toNat_natCast, h2], show indexN d rest (sz : Int) = indexTo d sz n by rw [indexN, if_pos hpb, idxL, Int.toNat_natCast, h2]] at hk
    have HK := Lib.hid hk
    clear hk hpb hpb2 h1 h2
    go_enter Tryd.func10, Tryd.ntmps10
    go_wp2_with fail
    rw [← HWA.out]
    refine HK.out.mono ?_
    rintro x w3 ⟨v, u, rfl, hv3, hu3, hb3⟩
    obtain ⟨p, c, rfl, _⟩ := ownsT_form hv3
    obtain ⟨q, c2, rfl⟩ : ∃ q c2, u = .slice q n c2 := by
      rw [indexTo_length] at hu3
      rcases hu3.2 with ⟨h0, h1⟩ | ⟨g, cap, cur, h0, _⟩
      · exact ⟨none, 0, by rw [h0, h1]⟩
      · exact ⟨_, _, h0⟩
    have HB3 := Lib.hid (HA.out.trans (hb3.mono HA.out.size))
    obtain ⟨m, hm⟩ : ∃ m, m = (pagesTo d sz n).length := ⟨_, rfl⟩
    rw [← hm] at HE hl hmul ⊢
    have hm32 : (m : Int) ≤ 32 := by omega
    have hs32 : (sz : Int) ≤ 32 := by omega
    obtain ⟨t, ht⟩ : ∃ t : Nat, t = m * sz := ⟨_, rfl⟩
    have hmt : (m : Int) * (sz : Int) = (t : Int) := by rw [ht]; simp
    rw [hmt] at HE
    have ht32 : (t : Int) ≤ 32 := by omega
    have hnn : (n : Int) ≤ 32 := by omega
    clear hv3 hu3 hb3 hm ht hmul
    go_wp2_with fail
    go_ret
    exact ⟨retI HE.out.symm, HB3.out⟩
  · have hpf : pagB d rest size = false := by simpa using hpb
    have HE := Lib.hid (show entN d rest size = -1 by rw [entN, if_neg hpb])
    rw [hpf] at hk
    have HK := Lib.hid hk
    clear hk hpb hpf
    go_enter Tryd.func10, Tryd.ntmps10
    go_wp2_with fail
    rw [← HWA.out]
    refine HK.out.mono ?_
    rintro x w3 ⟨v, u, rfl, _, _, hb3⟩
    have HB3 := Lib.hid (HA.out.trans (hb3.mono HA.out.size))
    clear hb3
    go_wp2_with fail
    go_ret
    exact ⟨retI HE.out.symm, HB3.out⟩

def sgn (x y : Int) : Int := if x < y then -1 else if y < x then 1 else 0
theorem sgn_neg {x y : Int} : sgn x y < 0 ↔ x < y := by unfold sgn; split <;> (try split) <;> omega

set_option maxRecDepth 100000 in
set_option maxHeartbeats 1000000 in
theorem bestCl_any (b off cap : Nat) (d : Array CaseD) (rest x y : Int) (B : Nat) (w : World) (hP : PagesFn b off cap d rest w) (hB0 : w.cell? ⟨B, 0, none⟩ = some (.slice (some ⟨b, off, none⟩) d.size cap)) (hB1 : w.cell? ⟨B, 1, none⟩ = some (.int .i64 rest)) (hBl : B < w.heap.size) :
    Calls Tryd.prog 42 #[.int .i64 x, .int .i64 y, .pointer (some ⟨B, 0, none⟩)] w fun e w' => e = .returned (.int .i64 (sgn (entN d rest x) (entN d rest y))) ∧ RowKit.Below w.heap.size w w' := by
  have HC1 := Lib.hid (fun W (hW : RowKit.Below w.heap.size w W) => implPSize_of b off cap d rest x W (hP.below hW))
  have HC2 := Lib.hid (fun W (hW : RowKit.Below w.heap.size w W) => implPSize_of b off cap d rest y W (hP.below hW))
  have hcc := fun x y W => (compare_any x y W).mono fun _ w' ⟨h1, h2⟩ => (⟨h1, by rw [← h2]; exact Below.refl _ _⟩ : _ ∧ RowKit.Below W.heap.size W w')
  have HCC := Lib.hid (fun x y W => (show Calls Tryd.prog 43 #[.int .i64 x, .int .i64 y] W fun e w' => e = .returned (.int .i64 (sgn x y)) ∧ RowKit.Below W.heap.size W w' from hcc x y W))
  obtain ⟨p, hp⟩ : ∃ p, p = entN d rest x := ⟨_, rfl⟩
  obtain ⟨q, hq⟩ : ∃ q, q = entN d rest y := ⟨_, rfl⟩
  rw [← hp] at HC1 ⊢
  rw [← hq] at HC2 ⊢
  have r0 := fun p : BW w => p.cell (a := ⟨B, 0, none⟩) hBl hB0
  have r1 := fun p : BW w => p.cell (a := ⟨B, 1, none⟩) hBl hB1
  clear hp hq hcc hP hB0 hB1
  go_enter Tryd.func42, Tryd.ntmps42
  go_wp2_with fail
  refine wp_region_bw (by kernel_rfl) (by kernel_rfl) ?_
  repeat (go_big_quiet_step (first
    | (go_at_call 10; with_reducible refine bw_of (HC1.out _ (BW.h _)))
    | (go_at_call 10; with_reducible refine bw_of (HC2.out _ (BW.h _)))
    | (go_at_call 43; refine bw_of (HCC.out _ _ _))))
  refine wpQuiet_nil ?_
  rintro _ ⟨t, rfl⟩
  clear r0 r1
  go_wp2_with fail
  go_ret
  exact ⟨rfl, t.h⟩

theorem sizes_pow : ∀ k, k ≤ 5 → sizesA[k]! = ((2 ^ k : Nat) : Int) := by decide
set_option maxRecDepth 100000 in
set_option maxHeartbeats 1000000 in
theorem minPg_any (b off cap : Nat) (d : Array CaseD) (rest : Int) (B g : Nat) (w : World) (hok : swB d rest = true) (hP : PagesFn b off cap d rest w) (hB0 : w.cell? ⟨B, 0, none⟩ = some (.slice (some ⟨b, off, none⟩) d.size cap)) (hB1 : w.cell? ⟨B, 1, none⟩ = some (.int .i64 rest)) (hBl : B < w.heap.size) (hR : RowN w g 0 sizesA) :
    Calls Tryd.prog 40 #[.slice (some ⟨g, 0, none⟩) 6 6, .func (.func 42) #[] #[.pointer (some ⟨B, 0, none⟩)]] w fun e w' => e = .returned (.int .i64 (bestPTo d 5 : Int)) ∧ RowKit.Below w.heap.size w w' := by
  have HR := Lib.hid hR
  have HCB := Lib.hid (fun x y W (hW : RowKit.Below w.heap.size w W) => bestCl_any b off cap d rest x y B W (hP.below hW) ((hW.cell (p := ⟨B, 0, none⟩) hBl).trans hB0) ((hW.cell (p := ⟨B, 1, none⟩) hBl).trans hB1) (Nat.lt_of_lt_of_le hBl hW.size))
  have hcl : ∀ args W, Sem.run Tryd.prog (callFunc 42 args) W = .ok (.enter 42 args) W := fun args W => enters_of Tryd.func42 (by kernel_rfl) rfl args W
  have HEN := Lib.hid (fun (k : Nat) (h : sizeB (k : Int) = true) => (show entN d rest (k : Int) = entZ d (k : Int) by rw [entN, if_pos (by rw [pagB, hok, h]; rfl)]))
  have x00 := hR.cell 0 (by decide)
  rw [sizes_pow 0 (by omega)] at x00
  clear hP hB0 hB1 hR hok
  go_enter Tryd.func40, Tryd.ntmps40
  go_wp2_with fail
  clear x00
  go_loopw [5, 6] (fun m i wr => ∃ k : Nat, i = .int .i64 ((k + 1 : Nat) : Int) ∧ m = .int .i64 ((bestPTo d k : Nat) : Int) ∧ k ≤ 5 ∧ Hid (RowKit.Below w.heap.size w wr)) (fun _ i _ => 6 - (RowKit.intOf i).toNat)
  case atStart => exact ⟨0, rfl, rfl, Nat.zero_le _, Below.refl _ _⟩
  case round =>
    obtain ⟨k, rfl, rfl, hk, HW⟩ := hrel
    by_cases hlt : k < 5
    · have x0 := (HR.out.below HW.out).cell (k + 1) (by show k + 1 < 6; omega)
      rw [sizes_pow (k + 1) (by omega), Nat.zero_add] at x0
      have HN1 := Lib.hid (show bestPTo d (k + 1) = if entZ d ((2 ^ (k + 1) : Nat) : Int) < entZ d (bestPTo d k : Int) then 2 ^ (k + 1) else bestPTo d k from rfl)
      have hc := HCB.out ((2 ^ (k + 1) : Nat) : Int) (bestPTo d k : Int) wr HW.out
      rw [HEN.out _ (pow_size (k + 1) (by omega)), HEN.out _ (bestPTo_size d k hk)] at hc
      obtain ⟨p, hp⟩ : ∃ p : Nat, p = 2 ^ (k + 1) := ⟨_, rfl⟩
      obtain ⟨q, hq⟩ : ∃ q : Nat, q = bestPTo d k := ⟨_, rfl⟩
      rw [← hp] at hc HN1 x0
      rw [← hq] at hc HN1 ⊢
      have hsn := sgn_neg (x := entZ d (p : Int)) (y := entZ d (q : Int))
      obtain ⟨z, hz⟩ : ∃ z, z = sgn (entZ d (p : Int)) (entZ d (q : Int)) := ⟨_, rfl⟩
      rw [← hz] at hc hsn
      have HC := Lib.hid hc
      have hki : ((k + 1 : Nat) : Int) < 6 := by omega
      obtain ⟨kk, hkk⟩ : ∃ kk : Nat, kk = k + 1 := ⟨_, rfl⟩
      rw [← hkk] at x0 hki ⊢
      have HKK := Lib.hid hkk
      have hgl := HR.out.old
      have x0b := x0
      by_cases hcmp : z < 0
      · have HN2 := Lib.hid (show bestPTo d kk = p by rw [hkk, HN1.out, if_pos (hsn.1 hcmp)])
        clear hp hq hz hkk hc hsn HN1
        go_wp2_with (go_at_call 42; refine HC.out.mono ?_; rintro _ w2 ⟨rfl, hb2⟩; have HB2 := Lib.hid (HW.out.trans (hb2.mono HW.out.size)); have y0 := (hb2.cell (p := ⟨g, kk, none⟩) (Nat.lt_of_lt_of_le hgl HW.out.size)).trans x0b; clear hb2)
        go_roundw
        case rel => exact ⟨kk, by go_num, by rw [HN2.out], by have := HKK.out; omega, HB2⟩
        case measure => have := HKK.out; simp [RowKit.intOf]; omega
      · have HN2 := Lib.hid (show bestPTo d kk = q by rw [hkk, HN1.out, if_neg (fun h => hcmp (hsn.2 h))])
        clear hp hq hz hkk hc hsn HN1
        go_wp2_with (go_at_call 42; refine HC.out.mono ?_; rintro _ w2 ⟨rfl, hb2⟩; have HB2 := Lib.hid (HW.out.trans (hb2.mono HW.out.size)); clear hb2)
        go_roundw
        case rel => exact ⟨kk, by go_num, by rw [HN2.out], by have := HKK.out; omega, HB2⟩
        case measure => have := HKK.out; simp [RowKit.intOf]; omega
    · obtain rfl : k = 5 := by omega
      go_wp2_with fail
      go_ret
      exact ⟨rfl, HW.out⟩

set_option maxRecDepth 100000 in
set_option maxHeartbeats 1000000 in
theorem implBPage_of (b off cap : Nat) (d : Array CaseD) (rest : Int) (w : World) (hR : RowC w b off d) (hE : ErrAt w) (hcap : d.size ≤ cap) (hmax : cap ≤ maxLen) (hP : PagesFn b off cap d rest w) :
    Calls Tryd.prog 11 #[.agg #[.slice (some ⟨b, off, none⟩) d.size cap, .int .i64 rest]] w fun x w' => x = .returned (.int .i64 (bestPN d rest)) ∧ RowKit.Below w.heap.size w w' := by
  have hv := fun W (hW : RowKit.Below w.heap.size w W) => switchValid_any b off cap d rest W (hR.below hW) (hE.below hW) hcap hmax
  have HM := Lib.hid (fun (hok : swB d rest = true) (B g : Nat) W (hW : RowKit.Below w.heap.size w W) h0 h1 hl hr => minPg_any b off cap d rest B g W hok (hP.below hW) h0 h1 hl hr)
  obtain ⟨wa, hwa⟩ : ∃ wa, wa = w.alloc (.cells #[.slice (some ⟨b, off, none⟩) d.size cap, .int .i64 rest] 25) := ⟨_, rfl⟩
  have c0 : wa.cell? ⟨w.heap.size, 0, none⟩ = some (.slice (some ⟨b, off, none⟩) d.size cap) := by rw [hwa]; simp
  have c1 : wa.cell? ⟨w.heap.size, 1, none⟩ = some (.int .i64 rest) := by rw [hwa]; simp
  have hz : w.heap.size < wa.heap.size := by rw [hwa]; simp
  have hba : RowKit.Below w.heap.size w wa := by rw [hwa]; exact (Below.refl _ _).alloc (Nat.le_refl _) _
  have HA := Lib.hid hba
  have C0 := Lib.hid c0
  have C1 := Lib.hid c1
  have HWA := Lib.hid hwa
  clear hba c0 c1 hwa hR hE hP
  cases hs : swB d rest
  all_goals
    simp only [hs] at hv
    have HV := Lib.hid hv
    have HS := Lib.hid hs
    clear hv hs
    go_enter Tryd.func11, Tryd.ntmps11
    go_wp2_with fail
    rw [← HWA.out]
    refine (HV.out _ HA.out).mono ?_
    rintro x w1 ⟨rfl, hb⟩
    have HB := Lib.hid hb
    have hz1 := hb.size
    clear hb
    go_wp2_with fail
  · go_ret
    exact ⟨retI (by rw [bestPN, HS.out]; rfl), HA.out.trans (HB.out.mono (Nat.le_of_lt hz))⟩
  · have HBN := Lib.hid (show bestPN d rest = (bestPTo d 5 : Int) by rw [bestPN, if_pos HS.out])
    refine (pageSizes_any w1).mono ?_
    rintro x w2 ⟨rfl, hr, hb2⟩
    have HR2 := Lib.hid hr
    have HB2 := Lib.hid (HB.out.trans (hb2.mono hz1))
    have a0 := (HB2.out.cell (p := ⟨w.heap.size, 0, none⟩) hz).trans C0.out
    have a1 := (HB2.out.cell (p := ⟨w.heap.size, 1, none⟩) hz).trans C1.out
    have HMM := Lib.hid (HM.out HS.out w.heap.size w1.heap.size w2 (HA.out.trans (HB2.out.mono (Nat.le_of_lt hz))) a0 a1 (Nat.lt_of_lt_of_le hz HB2.out.size) HR2.out)
    clear hr hb2 a0 a1
    go_wp2_with fail
    refine HMM.out.mono ?_
    rintro x w3 ⟨rfl, hb3⟩
    have HB3 := Lib.hid (HB2.out.trans (hb3.mono HB2.out.size))
    clear hb3
    go_wp2_with fail
    go_ret
    exact ⟨retI HBN.out.symm, HA.out.trans (HB3.out.mono (Nat.le_of_lt hz))⟩
end Go.Proofs.YtmhloojnekjfhaaDoor
