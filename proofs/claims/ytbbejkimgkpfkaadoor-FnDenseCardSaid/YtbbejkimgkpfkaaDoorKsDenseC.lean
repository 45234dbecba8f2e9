
/- DenseCases: the program's and the model's. -/
import Derived.Test.YtbbejkimgkpfkaaDoorKsDens
import Derived.Test.YtbbejkimgkpfkaaDoorKsQuiet
namespace Go.Proofs.YtbbejkimgkpfkaaDoor
open Go.RowKit Go.Shelf Go.Lib Go.Sort

/-- The s cases from the i-th on lie as dense as asked for. -/
def runOK (d : Array CaseD) (pct : Int) (i s : Nat) : Prop := pct ≤ densZ d d[i]!.low.toNat (d[i + s - 1]!.high - d[i]!.low + 1).toNat
def BestD (d : Array CaseD) (pct : Int) (i s : Nat) : Prop := 1 ≤ s ∧ i + s ≤ d.size ∧ runOK d pct i s ∧ (∀ j, j < i → ¬ runOK d pct j s) ∧ ∀ t j, s < t → j + t ≤ d.size → ¬ runOK d pct j t
theorem BestD.unique {d : Array CaseD} {pct : Int} {i s j t : Nat} (h : BestD d pct i s) (k : BestD d pct j t) : i = j ∧ s = t := by
  obtain ⟨h1, h2, h3, h4, h5⟩ := h
  obtain ⟨k1, k2, k3, k4, k5⟩ := k
  have e : s = t := by
    rcases Nat.lt_trichotomy s t with h | h | h
    · exact absurd k3 (h5 t j h k2)
    · exact h
    · exact absurd h3 (k5 s i h h2)
  subst e
  rcases Nat.lt_trichotomy i j with h | h | h
  · exact absurd h3 (k4 i h)
  · exact ⟨h, rfl⟩
  · exact absurd k3 (h4 j h)
def pctB (p : Int) : Bool := decide (0 ≤ p ∧ p ≤ 100)
open Classical in
noncomputable def denseN (d : Array CaseD) (rest pct : Int) : Value :=
  if h : swB d rest = true ∧ pctB pct = true ∧ ∃ p : Nat × Nat, BestD d pct p.1 p.2 then .tuple #[.int .i64 (Classical.choose h.2.2).1, .int .i64 ((Classical.choose h.2.2).1 + (Classical.choose h.2.2).2 - 1), .bool true] else .tuple #[.int .i64 0, .int .i64 0, .bool false]
theorem denseN_off {d : Array CaseD} {rest pct : Int} (h : ¬ (swB d rest = true ∧ pctB pct = true)) : denseN d rest pct = .tuple #[.int .i64 0, .int .i64 0, .bool false] := by
  rw [denseN, dif_neg fun k => h ⟨k.1, k.2.1⟩]
theorem denseN_none {d : Array CaseD} {rest pct : Int} (h : ∀ t j, 0 < t → j + t ≤ d.size → ¬ runOK d pct j t) : denseN d rest pct = .tuple #[.int .i64 0, .int .i64 0, .bool false] := by
  rw [denseN, dif_neg]
  rintro ⟨_, _, ⟨i, s⟩, hb⟩
  exact h s i hb.1 hb.2.1 hb.2.2.1
open Classical in
theorem denseN_best {d : Array CaseD} {rest pct : Int} (h1 : swB d rest = true) (h2 : pctB pct = true) {i s : Nat} (hb : BestD d pct i s) : denseN d rest pct = .tuple #[.int .i64 i, .int .i64 ((i : Int) + s - 1), .bool true] := by
  have h : swB d rest = true ∧ pctB pct = true ∧ ∃ p : Nat × Nat, BestD d pct p.1 p.2 := ⟨h1, h2, (i, s), hb⟩
  rw [denseN, dif_pos h]
  obtain ⟨e1, e2⟩ := (Classical.choose_spec h.2.2).unique hb
  rw [e1, e2]
theorem case_span {d : Array CaseD} {rest : Int} (h : SwOK d rest) {i s : Nat} (hs : 1 ≤ s) (hi : i + s ≤ d.size) : 0 ≤ d[i]!.low ∧ d[i]!.low ≤ d[i + s - 1]!.high ∧ d[i + s - 1]!.high ≤ 31 := by
  have h1 := caseB_low (h.case i (by omega))
  have h2 := caseB_high (h.case (i + s - 1) (by omega))
  refine ⟨h1.1, ?_, h2.2⟩
  by_cases e : s = 1
  · subst e
    exact caseB_le (h.case i (by omega))
  · have h3 := h.before (show i < i + s - 1 by omega) (by omega)
    have h4 := caseB_le (h.case i (by omega))
    have h5 := caseB_le (h.case (i + s - 1) (by omega))
    omega

set_option maxRecDepth 100000 in
set_option maxHeartbeats 2000000 in
theorem specDense_any (b off cap : Nat) (d : Array CaseD) (rest key : Int) (w : World) (hR : RowC w b off d) (hcap : d.size ≤ cap) (hmax : cap ≤ maxLen) :
    Calls Tryd.prog 34 #[.agg #[.slice (some ⟨b, off, none⟩) d.size cap, .int .i64 rest], .int .i64 key] w fun x w' => x = .returned (denseN d rest key) ∧ RowKit.Below w.heap.size w w' := by
  have hv := fun W (hW : RowKit.Below w.heap.size w W) => specValid_any b off cap d rest W (hR.below hW) hcap hmax
  have HT := Lib.hid (fun (ln n : Nat) (hi : Int) (ho : SwOK d rest) (h1 : hi + 1 = ln + n) (h2 : hi ≤ 31) (h3 : 0 < n) W (hW : RowKit.Below w.heap.size w W) => l6Dense_any b off cap d rest hi ln n W (hR.below hW) ho.size h1 h2 h3)
  have hk := fun W => l1In_any key 0 100 W
  have HR := Lib.hid hR
  clear hR
  obtain ⟨wa, hwa⟩ : ∃ wa, wa = w.alloc (.cells #[.slice (some ⟨b, off, none⟩) d.size cap, .int .i64 rest] 25) := ⟨_, rfl⟩
  have c0 : wa.cell? ⟨w.heap.size, 0, none⟩ = some (.slice (some ⟨b, off, none⟩) d.size cap) := by rw [hwa]; simp
  have c1 : wa.cell? ⟨w.heap.size, 1, none⟩ = some (.int .i64 rest) := by rw [hwa]; simp
  have hz : w.heap.size < wa.heap.size := by rw [hwa]; simp
  have hba : RowKit.Below w.heap.size w wa := by rw [hwa]; exact (Below.refl _ _).alloc (Nat.le_refl _) _
  have HA := Lib.hid hba
  have C0 := Lib.hid c0
  have C1 := Lib.hid c1
  have HWA := Lib.hid hwa
  clear hba c0 c1 hwa
  cases hs : swB d rest <;> cases hkb : inB key 0 100
  all_goals
    simp only [hs] at hv
    simp only [hkb] at hk
    have HV := Lib.hid hv
    have HS := Lib.hid hs
    have HK := Lib.hid hk
    have HKB := Lib.hid (show pctB key = _ from hkb)
    clear hv hs hk hkb
    go_enter Tryd.func34, Tryd.ntmps34
    go_wp2_with fail
    rw [← HWA.out]
    refine (HV.out _ HA.out).mono ?_
    rintro x w1 ⟨rfl, hb⟩
    have HB := Lib.hid hb
    have hz1 := hb.size
    have a0 := (hb.cell (p := ⟨w.heap.size, 0, none⟩) hz).trans C0.out
    have a1 := (hb.cell (p := ⟨w.heap.size, 1, none⟩) hz).trans C1.out
    have HWB := Lib.hid (HA.out.trans (HB.out.mono (by omega)))
    clear hb
    go_wp2_with (go_at_call 88; refine (HK.out _).mono ?_; rintro y w2 ⟨rfl, rfl⟩)
  iterate 3
    · go_ret3
      exact ⟨by rw [denseN_off (by rw [HS.out, HKB.out]; decide)]; rfl, HWB.out⟩
  · have HO := Lib.hid ((swB_iff _ _).1 HS.out)
    have h8 : (d.size : Int) ≤ 8 := by have := HO.out.size; omega
    have A0 := Lib.hid a0
    have A1 := Lib.hid a1
    have hzw : w.heap.size < w1.heap.size := by omega
    go_wp2_with fail
    clear a0 a1
    go_loopw [7, 8] (fun s _ wr => ∃ k : Nat, s = .int .i64 k ∧ k ≤ d.size ∧ Hid (∀ t j, k < t → j + t ≤ d.size → ¬ runOK d key j t) ∧ Hid (RowKit.Below w1.heap.size w1 wr)) (fun s _ _ => (intOf s).toNat)
    case atStart => exact ⟨d.size, rfl, Nat.le_refl _, fun t j h1 h2 => by omega, Below.refl _ _⟩
    case round =>
      obtain ⟨k, rfl, hk, HN, HW⟩ := hrel
      by_cases h0 : 0 < k
      · have h0i : (0 : Int) < (k : Int) := by omega
        have hk8 : (k : Int) ≤ 8 := by omega
        go_wp2_with fail
        obtain ⟨wo, rfl⟩ : ∃ wo, wo = wr := ⟨_, rfl⟩
        go_loopw [8] (fun i wr => ∃ j : Nat, i = .int .i64 j ∧ j + k ≤ d.size + 1 ∧ Hid (∀ q, q < j → ¬ runOK d key q k) ∧ Hid (RowKit.Below w1.heap.size w1 wr)) (fun i _ => d.size + 1 - (intOf i).toNat)
        case atStart => exact ⟨0, rfl, by omega, fun q hq => absurd hq (Nat.not_lt_zero _), HW.out⟩
        case round =>
          obtain ⟨j, rfl, hj, HJ, HWI⟩ := hrel
          have a0 := (HWI.out.cell (p := ⟨w.heap.size, 0, none⟩) hzw).trans A0.out
          have a1 := (HWI.out.cell (p := ⟨w.heap.size, 1, none⟩) hzw).trans A1.out
          have hwz := HWI.out.size
          by_cases hlt : j + k ≤ d.size
          · have hsp := case_span HO.out h0 hlt
            have HWW := Lib.hid (HWB.out.trans (HWI.out.mono HWB.out.size))
            have hx := HR.out.below HWW.out
            have x0 := hx.low j (by omega)
            have x1 := hx.high (j + k - 1) (by omega)
            have hbs := hx.old
            have HQ := Lib.hid (show runOK d key j k ↔ key ≤ densZ d d[j]!.low.toNat (d[j + k - 1]!.high - d[j]!.low + 1).toNat from Iff.rfl)
            have hcall := fun W (hW : RowKit.Below wr.heap.size wr W) => HT.out d[j]!.low.toNat (d[j + k - 1]!.high - d[j]!.low + 1).toNat d[j + k - 1]!.high HO.out (by omega) hsp.2.2 (by omega) W (HWW.out.trans (hW.mono HWW.out.size))
            obtain ⟨ln, hln⟩ : ∃ ln : Nat, d[j]!.low = ln := ⟨d[j]!.low.toNat, by omega⟩
            obtain ⟨z, hz'⟩ : ∃ z, z = densZ d d[j]!.low.toNat (d[j + k - 1]!.high - d[j]!.low + 1).toNat := ⟨_, rfl⟩
            obtain ⟨hh, hhe⟩ : ∃ hh, hh = d[j + k - 1]!.high := ⟨_, rfl⟩
            rw [← hz'] at HQ hcall
            rw [← hhe] at x1 hcall
            rw [hln] at x0 hcall
            rw [Int.toNat_natCast] at hcall
            have HCALL := Lib.hid hcall
            have q0 := fun p : BW wr => p.cell (a := ⟨w.heap.size, 0, none⟩) (Nat.lt_of_lt_of_le hzw hwz) a0
            have q1 := fun p : BW wr => p.cell (a := ⟨w.heap.size, 1, none⟩) (Nat.lt_of_lt_of_le hzw hwz) a1
            have q2 := fun p : BW wr => p.cell (a := ⟨b, off + j * 4, none⟩) hbs x0
            have q3 := fun p : BW wr => p.cell (a := ⟨b, off + (j + k - 1) * 4 + 1, none⟩) hbs x1
            have hji : (j : Int) + (k : Int) ≤ (d.size : Int) := by omega
            have hj8 : (j : Int) ≤ 8 := by omega
            have t1 : IntKind.i64.wrap ((j : Int) + (k : Int)) = (j : Int) + (k : Int) := IntWalk.i64_in _ (by omega)
            have t2 : IntKind.i64.wrap ((j : Int) + (k : Int) - 1) = (j : Int) + (k : Int) - 1 := IntWalk.i64_in _ (by omega)
            have t3 : ((j : Int) + (k : Int) - 1).toNat = j + k - 1 := by omega
            have t4 : 0 ≤ (j : Int) + (k : Int) - 1 := by omega
            have t5 : (j : Int) + (k : Int) - 1 < (d.size : Int) := by omega
            have t6 : (j : Int) < (d.size : Int) := by omega
            clear hln hz' hhe hcall hsp hx x0 x1
            go_wp2_with fail
            clear a0 a1
            refine wp_region_bw (by kernel_rfl) (by kernel_rfl) ?_
            repeat (go_big_quiet_step (((go_at_call 84; refine bw_of (HCALL.out _ (BW.h _))))))
            refine wpQuiet_nil ?_
            rintro _ ⟨p, rfl⟩
            have HP := Lib.hid (HWI.out.trans (p.h.mono HWI.out.size))
            clear q0 q1 q2 q3 t1 t2 t3 t4 t5
            by_cases hq : key ≤ z
            · have hji' : (j : Int) ≤ 8 := by omega
              go_wp2_with fail
              go_ret3
              refine ⟨?_, HWB.out.trans (HP.out.mono HWB.out.size)⟩
              rw [denseN_best HS.out HKB.out (i := j) (s := k) ⟨h0, hlt, HQ.out.2 hq, HJ.out, HN.out⟩]
              rfl
            · go_wp2_with fail
              go_roundw
              case rel =>
                refine ⟨j + 1, by go_num, by omega, fun q hq' => ?_, HP.out⟩
                by_cases e : q = j
                · subst e
                  exact fun h => absurd (HQ.out.1 h) (by omega)
                · exact HJ.out q (by omega)
              case measure => simp [intOf]; omega
          · have hlt' : ¬ ((j : Int) + (k : Int) ≤ (d.size : Int)) := by omega
            go_wp2_with fail
            go_roundw
            case rel =>
              refine ⟨k - 1, by rw [show ((k - 1 : Nat) : Int) = (k : Int) - 1 by omega], by omega, fun t q h1 h2 => ?_, HWI.out⟩
              by_cases e : t = k
              · subst e
                exact HJ.out q (by omega)
              · exact HN.out t q (by omega) h2
            case measure => simp [intOf]; omega
      · have h0i : ¬ (0 : Int) < (k : Int) := by omega
        have hke : k = 0 := by omega
        go_wp2_with fail
        go_ret3
        refine ⟨?_, HWB.out.trans (HW.out.mono HWB.out.size)⟩
        rw [denseN_none fun t j h1 h2 => HN.out t j (by omega) h2]
        rfl
end Go.Proofs.YtbbejkimgkpfkaaDoor
