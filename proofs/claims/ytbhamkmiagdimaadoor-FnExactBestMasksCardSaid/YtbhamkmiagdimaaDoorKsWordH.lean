
/- slices.SortStableFunc on at most eight bytes, by any comparison; BestMasks of the program. -/
import Derived.Test.YtbhamkmiagdimaaDoorKsWordJ
import Derived.Test.YtbhamkmiagdimaaDoorKsWordG
import Derived.Test.YtbhamkmiagdimaaDoorKsBytes
import Derived.IntWalk
namespace Go.Proofs.YtbhamkmiagdimaaDoor
open Go.RowKit Go.Shelf Go.Lib Go.Sort

theorem grown_belowB {w w' : World} {r : Option Nat} (h : RowKit.Below w.heap.size w w') : w.grownBy w' r := ⟨h.os, h.tape, h.output, h.size, fun k hk _ => h.block k hk⟩
theorem holdsB_below {w w' : World} {g : Nat} {d : Array Int} (h : Holds encB w g 0 d) (hg : g < w.heap.size) (hb : RowKit.Below w.heap.size w w') : Holds encB w' g 0 d := fun j hj =>
  ⟨(hb.cell (p := ⟨g, 0 + j, none⟩) hg).trans (h j hj).1, (hb.frozen (p := ⟨g, 0 + j, none⟩) hg).trans (h j hj).2⟩
theorem ok_swpB {Ok : Int → Prop} {d : Array Int} {i j : Nat} (h : ∀ k, k < d.size → Ok d[k]!) (hi : i < d.size) (hj : j < d.size) : ∀ k, k < (swp d i j).size → Ok (swp d i j)[k]! := by
  intro k hk
  rw [swp_size] at hk
  by_cases he : i = j
  · subst he
    have e : (swp d i i)[k]! = d[k]! := by
      unfold swp
      by_cases h1 : k = i
      · subst h1; rw [getElem!_set_same _ _ _ (by simpa using hi)]
      · rw [getElem!_set_other _ _ _ _ h1, getElem!_set_other _ _ _ _ h1]
    rw [e]; exact h k hk
  · rw [swp_get hi hj he]
    split
    · exact h i hi
    · split
      · exact h j hj
      · exact h k hk

set_option maxRecDepth 100000 in
set_option maxHeartbeats 1000000 in
theorem insCmpB_any (g cap : Nat) (d : Array Int) (w : World) (hH : Holds encB w g 0 d) (hn : d.size ≤ 12) (fg : Nat) (cb : Array Value) (cf : Int → Int → Int) (Ok : Int → Prop)
    (hC : ∀ x y W, Ok x → Ok y → w.grownBy W (some g) → Calls Tryd.prog fg (#[.int .u8 x, .int .u8 y] ++ cb) W fun e w' => e = .returned (.int .i64 (cf x y)) ∧ RowKit.Below W.heap.size W w')
    (hO : ∀ j, j < d.size → Ok d[j]!) (hgs : g < w.heap.size) (eg : ∀ args w, (callFunc fg args).run Tryd.prog w = .ok (.enter fg args) w) :
    Calls Tryd.prog 116 #[.slice (some ⟨g, 0, none⟩) d.size cap, .int .i64 0, .int .i64 d.size, .func (.func fg) #[] cb] w fun e w' => e = .returned (.tuple #[]) ∧ Holds encB w' g 0 (insertionSort (ltOf cf) d 0 d.size) ∧ w.grownBy w' (some g) := by
  have HH0 := Lib.hid hH
  have hn' : (d.size : Int) ≤ 12 := by omega
  have HC := Lib.hid hC
  have HO := Lib.hid hO
  clear hH hC hO
  go_enter Tryd.func116, Tryd.ntmps116
  go_wp2
  go_loopw [8] (fun vi wr => ∃ (i : Nat) (dk : Array Int), vi = .int .i64 i ∧ 0 < i ∧ i ≤ d.size + 1 ∧ Hid (dk.size = d.size) ∧ Hid (Holds encB wr g 0 dk) ∧ Hid (w.grownBy wr (some g)) ∧ Hid (∀ j, j < dk.size → Ok dk[j]!) ∧ Hid (insOuter (ltOf cf) 0 d.size i dk = insOuter (ltOf cf) 0 d.size 1 d)) (fun vi _ => d.size + 1 - (intOf vi).toNat)
  case atStart => exact ⟨1, d, rfl, by omega, by omega, rfl, HH0.out, grown_reflB _ _, HO.out, rfl⟩
  case round =>
    obtain ⟨i, dk, rfl, hi0, hib, HK, HH, HG, HA, HOO⟩ := hrel
    by_cases hlt : i < d.size
    · go_wp2
      go_loopw [9] (fun vj wr2 => ∃ (j : Nat) (dj : Array Int), vj = .int .i64 j ∧ j ≤ i ∧ Hid (dj.size = d.size) ∧ Hid (Holds encB wr2 g 0 dj) ∧ Hid (w.grownBy wr2 (some g)) ∧ Hid (∀ j, j < dj.size → Ok dj[j]!) ∧ Hid (insInner (ltOf cf) 0 j dj = insInner (ltOf cf) 0 i dk)) (fun vj _ => (intOf vj).toNat)
      case atStart => exact ⟨i, dk, rfl, Nat.le_refl _, HK.out, HH.out, HG.out, HA.out, rfl⟩
      case round =>
        obtain ⟨j, dj, rfl, hji, HKj, HHj, HGj, HAj, HI⟩ := hrel
        have OUT := Lib.hid (fun (hs : j ≤ 0 ∨ ltOf cf dj[j]! dj[j - 1]! = false) => (show insOuter (ltOf cf) 0 d.size (i + 1) dj = insOuter (ltOf cf) 0 d.size 1 d by
          rw [← HOO.out, insOuter_go _ _ _ _ _ hlt, ← HI.out, insInner_stop _ _ _ _ hs]))
        by_cases hj0 : 0 < j
        · have hjs : j < dj.size := by rw [HKj.out]; omega
          have hjs1 : j - 1 < dj.size := by omega
          have x0 : wr.cell? ⟨g, 0 + j, none⟩ = some (.int .u8 dj[j]!) := (HHj.out j hjs).1
          have x1 : wr.cell? ⟨g, 0 + (j - 1), none⟩ = some (.int .u8 dj[j - 1]!) := (HHj.out (j - 1) hjs1).1
          have y0 := (HHj.out j hjs).2
          have y1 := (HHj.out (j - 1) hjs1).2
          have hgr : g < wr.heap.size := Nat.lt_of_lt_of_le hgs HGj.out.size
          simp only [Nat.zero_add] at x0 x1 y0 y1
          have oka := HAj.out j hjs
          have okb := HAj.out (j - 1) hjs1
          obtain ⟨a, ha⟩ : ∃ a, a = dj[j]! := ⟨_, rfl⟩
          obtain ⟨b, hb⟩ : ∃ b, b = dj[j - 1]! := ⟨_, rfl⟩
          rw [← ha] at x0 oka
          rw [← hb] at x1 okb
          have GC := Lib.hid fun p : BW wr => HC.out a b p.W oka okb (HGj.out.trans (grown_belowB p.h))
          have q0 := fun p : BW wr => p.cell hgr x0
          have q1 := fun p : BW wr => p.cell hgr x1
          have EA := Lib.hid ha
          have EB := Lib.hid hb
          have HJ := Lib.hid hjs
          have OKA := Lib.hid oka
          have OKB := Lib.hid okb
          have X0 := Lib.hid x0
          have X1 := Lib.hid x1
          have Y0 := Lib.hid y0
          have Y1 := Lib.hid y1
          clear ha hb hjs hjs1 oka okb x0 x1 y0 y1
          have hd0 : decide (0 < j) = true := by simp; omega
          have hs2 : IntKind.i64.wrap ((j : Int) - 1) = (j : Int) - 1 := IntWalk.i64_in _ (by omega)
          have hs3 : (0 : Int) ≤ (j : Int) - 1 := by omega
          have hs4 : ((j : Int) - 1).toNat = j - 1 := by omega
          have hs5 : (j : Int) - 1 < (d.size : Int) := by omega
          have hs6 : (j : Int) < (d.size : Int) := by omega
          have hs7 : (0 : Int) ≤ (j : Int) := by omega
          have HCF := Lib.hid (show ltOf cf a b = decide (cf a b < 0) from rfl)
          obtain ⟨r, hr⟩ : ∃ r, r = cf a b := ⟨_, rfl⟩
          rw [← hr] at GC HCF
          clear hr
          cases hq : decide (r < 0)
          all_goals
            rw [hq] at HCF
            go_wp2
            refine wp_region_bw (by kernel_rfl) (by kernel_rfl) ?_
            repeat (go_big_quiet_step (with_reducible refine bw_of (GC.out _)))
            refine wpQuiet_nil ?_
            rintro _ ⟨pp, rfl⟩
            have hBW := pp.h
            have x0 := (hBW.cell (p := ⟨g, j, none⟩) hgr).trans X0.out
            have x1 := (hBW.cell (p := ⟨g, j - 1, none⟩) hgr).trans X1.out
            have y0 := (hBW.frozen (p := ⟨g, j, none⟩) hgr).trans Y0.out
            have y1 := (hBW.frozen (p := ⟨g, j - 1, none⟩) hgr).trans Y1.out
            have HHW := Lib.hid (show Holds encB pp.W g 0 dj from holdsB_below HHj.out hgr hBW)
            have HGW := Lib.hid (HGj.out.trans (grown_belowB (r := some g) hBW))
            clear hBW q0 q1
            go_wp2
          · go_roundw
            case rel => exact ⟨i + 1, dj, by go_num, by omega, by omega, HKj.out, HHW.out, HGW.out, HAj.out, OUT.out (.inr (by rw [← EA.out, ← EB.out]; exact HCF.out))⟩
            case measure => simp [intOf]; omega
          · have hne1 : ¬ j = j - 1 := by omega
            have hne2 : ¬ j - 1 = j := by omega
            go_region
            all_goals go_wp2
            go_roundw
            case rel =>
              have hs := HJ.out
              have h1 := holds_setB (show Holds encB pp.W.drew g 0 dj from HHW.out) j b hs
              have h2 := holds_setB h1 (j - 1) a (by simp; omega)
              refine ⟨j - 1, swp dj j (j - 1), by first | rfl | go_num | (congr 1; omega), by omega, (show _ = _ by rw [size_swp]; exact HKj.out), (show Holds _ _ _ _ _ by unfold swp; rw [← EA.out, ← EB.out]; exact h2), grown_setB (grown_setB (grown_drew1B HGW.out) _ _) _ _, ok_swpB HAj.out hs (by omega), (show _ = _ from ?_)⟩
              rw [← HI.out, insInner_go (ltOf cf) 0 j dj hj0 (by rw [← EA.out, ← EB.out]; exact HCF.out)]
            case measure => simp [intOf]; omega
        · have hd0 : decide (0 < j) = false := by simp; omega
          go_wp2
          go_quiet (fail)
          go_wp2
          go_roundw
          case rel => exact ⟨i + 1, dj, by go_num, by omega, by omega, HKj.out, HHj.out, grown_drewB HGj.out _, HAj.out, OUT.out (.inl (by omega))⟩
          case measure => simp [intOf]; omega
    · go_wp2
      go_end0
      refine ⟨rfl, ?_, HG.out⟩
      have e : insertionSort (ltOf cf) d 0 d.size = dk := by
        unfold insertionSort
        rw [← HOO.out, insOuter_stop _ _ _ _ _ hlt]
      rw [e]
      exact HH.out

set_option maxHeartbeats 1000000 in
theorem stableB_any (g cap : Nat) (d : Array Int) (w : World) (hH : Holds encB w g 0 d) (hn : d.size ≤ 8) (fg : Nat) (cb : Array Value) (cf : Int → Int → Int) (Ok : Int → Prop)
    (hC : ∀ x y W, Ok x → Ok y → w.grownBy W (some g) → Calls Tryd.prog fg (#[.int .u8 x, .int .u8 y] ++ cb) W fun e w' => e = .returned (.int .i64 (cf x y)) ∧ RowKit.Below W.heap.size W w')
    (hO : ∀ j, j < d.size → Ok d[j]!) (hgs : g < w.heap.size) (eg : ∀ args w, (callFunc fg args).run Tryd.prog w = .ok (.enter fg args) w) :
    Calls Tryd.prog 92 #[.slice (some ⟨g, 0, none⟩) d.size cap, .int .i64 d.size, .func (.func fg) #[] cb] w fun e w' => e = .returned (.tuple #[]) ∧ Holds encB w' g 0 (insertionSort (ltOf cf) d 0 d.size) ∧ w.grownBy w' (some g) := by
  have hcon := Lib.hid (insCmpB_any g cap d w hH (by omega) fg cb cf Ok hC hO hgs eg)
  clear hH hC hO eg
  generalize insertionSort (ltOf cf) d 0 d.size = r at hcon ⊢
  have b1 : (d.size : Int) ≤ 8 := by omega
  go_enter Tryd.func92, Tryd.ntmps92
  go_wp2
  refine wp_loop_rounds 1 ?_
  rw [rounds_succ]
  go_wp2_with (go_at_call 116; refine hcon.out.mono ?_; rintro e w' ⟨rfl, h1, h2⟩; have H1 := Lib.hid h1; have H2 := Lib.hid h2; clear h1 h2)
  refine wp_loop_rounds 1 ?_
  rw [rounds_succ]
  go_wp2
  go_end0
  exact ⟨rfl, H1.out, H2.out⟩

set_option maxHeartbeats 400000 in
theorem sortStableB_any (g cap : Nat) (d : Array Int) (w : World) (hH : Holds encB w g 0 d) (hn : d.size ≤ 8) (fg : Nat) (cb : Array Value) (cf : Int → Int → Int) (Ok : Int → Prop)
    (hC : ∀ x y W, Ok x → Ok y → w.grownBy W (some g) → Calls Tryd.prog fg (#[.int .u8 x, .int .u8 y] ++ cb) W fun e w' => e = .returned (.int .i64 (cf x y)) ∧ RowKit.Below W.heap.size W w')
    (hO : ∀ j, j < d.size → Ok d[j]!) (hgs : g < w.heap.size) (eg : ∀ args w, (callFunc fg args).run Tryd.prog w = .ok (.enter fg args) w) :
    Calls Tryd.prog 62 #[.slice (some ⟨g, 0, none⟩) d.size cap, .func (.func fg) #[] cb] w fun e w' => e = .returned (.tuple #[]) ∧ Holds encB w' g 0 (insertionSort (ltOf cf) d 0 d.size) ∧ w.grownBy w' (some g) := by
  have hcon := Lib.hid (stableB_any g cap d w hH hn fg cb cf Ok hC hO hgs eg)
  clear hH hC hO eg
  generalize insertionSort (ltOf cf) d 0 d.size = r at hcon ⊢
  go_enter Tryd.func62, Tryd.ntmps62
  go_wp2_with (go_at_call 92; refine hcon.out.mono ?_; rintro e w' ⟨rfl, h1, h2⟩; have H1 := Lib.hid h1; have H2 := Lib.hid h2; clear h1 h2)
  go_end0
  exact ⟨rfl, H1.out, H2.out⟩


/-- The comparison of two targets: the heavier one first. -/
def hvyC (d : Array CaseD) (rest x y : Int) : Int := if wgtT d rest y < wgtT d rest x then -1 else if wgtT d rest x < wgtT d rest y then 1 else 0
theorem hvyC_lt (d : Array CaseD) (rest : Int) : ltOf (hvyC d rest) = hvy d rest := by
  funext x y
  show decide (hvyC d rest x y < 0) = decide (wgtT d rest y < wgtT d rest x)
  unfold hvyC
  by_cases h : wgtT d rest y < wgtT d rest x
  · rw [if_pos h]; simp [h]
  · rw [if_neg h]
    split <;> simp [h]

set_option maxRecDepth 100000 in
set_option maxHeartbeats 1000000 in
theorem hvyCmp_any (b off cap sb : Nat) (d : Array CaseD) (rest : Int) (x y : UInt8) (w : World) (hR : RowC w b off d) (hsb : sb < w.heap.size)
    (c0 : w.cell? ⟨sb, 0, none⟩ = some (.slice (some ⟨b, off, none⟩) d.size cap)) (c1 : w.cell? ⟨sb, 1, none⟩ = some (.int .i64 rest)) (hok : SwOK d rest) :
    Calls Tryd.prog 63 #[.int .u8 (x.toNat : Int), .int .u8 (y.toNat : Int), .pointer (some ⟨sb, 0, none⟩)] w fun e w' => e = .returned (.int .i64 (hvyC d rest (x.toNat : Int) (y.toNat : Int))) ∧ RowKit.Below w.heap.size w w' := by
  have gx := fun p : BW w => weightOf_any b off cap d rest x p.W (hR.below p.h) hok
  have gy := fun p : BW w => weightOf_any b off cap d rest y p.W (hR.below p.h) hok
  have HE := Lib.hid (show hvyC d rest (x.toNat : Int) (y.toNat : Int) = (if wgtT d rest (y.toNat : Int) < wgtT d rest (x.toNat : Int) then -1 else if wgtT d rest (x.toNat : Int) < wgtT d rest (y.toNat : Int) then 1 else 0) from rfl)
  obtain ⟨u, hu⟩ : ∃ u, u = wgtT d rest (x.toNat : Int) := ⟨_, rfl⟩
  obtain ⟨v, hv⟩ : ∃ v, v = wgtT d rest (y.toNat : Int) := ⟨_, rfl⟩
  rw [← hu] at gx HE
  rw [← hv] at gy HE
  have gz := fun p : BW w => (compare_any v u p.W).mono (fun e w' h => (⟨h.1, h.2 ▸ Below.refl _ _⟩ : e = _ ∧ RowKit.Below p.W.heap.size p.W w'))
  rw [← HE.out] at gz
  have GX := Lib.hid gx
  have GY := Lib.hid gy
  have GZ := Lib.hid gz
  have q0 := fun p : BW w => p.cell hsb c0
  have q1 := fun p : BW w => p.cell hsb c1
  clear hu hv gx gy gz hR hok c0 c1
  generalize hvyC d rest (x.toNat : Int) (y.toNat : Int) = r at HE GZ ⊢
  go_enter Tryd.func63, Tryd.ntmps63
  go_wp2_with fail
  refine wp_region_bw (by kernel_rfl) (by kernel_rfl) ?_
  repeat (go_big_quiet_step (first | (with_reducible refine bw_of (GX.out _)) | (with_reducible refine bw_of (GY.out _)) | (with_reducible refine bw_of (GZ.out _))))
  refine wpQuiet_nil ?_
  rintro _ ⟨⟨W', hBW⟩, rfl⟩
  have HBW := Lib.hid hBW
  clear hBW
  go_wp2
  go_ret
  exact ⟨rfl, HBW.out⟩

theorem byA_strOf {l : List Int} (hl : ∀ x ∈ l, 0 ≤ x ∧ x ≤ 255) : byA (strOf l) = l.toArray := by
  have hs : (byA (strOf l)).size = l.length := by rw [byA_size, strOf_size]
  refine Array.ext (by simpa using hs) fun j h1 h2 => ?_
  have hj : j < l.length := by omega
  have e : (byA (strOf l))[j] = (byA (strOf l))[j]! := by rw [getElem!_pos _ j h1]
  rw [e, byA_get (by rw [strOf_size]; exact hj), byteN_strOf l hl hj]
  simp
theorem targets_string {W : World} {g cap : Nat} (ns : List Int) (h : ∀ j v, (ns.map encB)[j]? = some v → W.cell? ⟨g, j, none⟩ = some v) :
    Sem.run Tryd.prog (convert 69 9 (.slice (some ⟨g, 0, none⟩) ns.length cap)) W = .ok (.string (strOf ns)) W := by
  have hl := run_loadCells_list (P := Tryd.prog) (w := W) ⟨g, 0, none⟩ (ns.map encB) (fun j v hj => by rw [Addr.add_lit, Nat.zero_add]; exact h j v hj)
  rw [List.length_map] at hl
  rw [run_convert_bytes_string _ _ _ _ _ _ _ Tryd.underlying69 Tryd.underlying61 Tryd.underlying9, run_bytesToString _ _ _ _ ns hl]
  rfl
theorem RowC.keptB {W W' : World} {g off : Nat} {d : Array CaseD} {row : Option Nat} (h : RowC W g off d) (hg : W.grownBy W' row) (hne : some g ≠ row) : RowC W' g off d := by
  have hc : ∀ j, W'.cell? ⟨g, j, none⟩ = W.cell? ⟨g, j, none⟩ := fun j => World.cell?_of_block (w := W) (hg.block g h.old hne)
  exact ⟨Nat.lt_of_lt_of_le h.old hg.size, fun j hj => (hc _).trans (h.low j hj), fun j hj => (hc _).trans (h.high j hj), fun j hj => (hc _).trans (h.target j hj), fun j hj => (hc _).trans (h.weight j hj)⟩
theorem byte_of {x : Int} (h0 : 0 ≤ x) (h1 : x ≤ 255) : ∃ c : UInt8, x = (c.toNat : Int) := ⟨UInt8.ofNat x.toNat, by
  rw [UInt8.toNat_ofNat']
  have a1 : x.toNat % 2 ^ 8 = x.toNat := Nat.mod_eq_of_lt (by omega)
  omega⟩

set_option maxRecDepth 100000 in
set_option maxHeartbeats 2000000 in
theorem implBestM_any (b off cap : Nat) (d : Array CaseD) (rest : Int) (w : World) (hR : RowC w b off d) (hE : ErrAt w) (hcap : d.size ≤ cap) (hmax : cap ≤ maxLen) :
    Calls Tryd.prog 31 #[.agg #[.slice (some ⟨b, off, none⟩) d.size cap, .int .i64 rest]] w fun x w' => x = .returned (.tuple #[.string (bestMN d rest), .bool (swB d rest)]) ∧ RowKit.Below w.heap.size w w' := by
  have hv := fun W (hW : RowKit.Below w.heap.size w W) => switchValid_any b off cap d rest W (hR.below hW) (hE.below hW) hcap hmax
  have HCT := Lib.hid (fun hok W (hW : RowKit.Below w.heap.size w W) => caseTargets_any b off cap d rest W (hR.below hW) (hE.below hW) hcap hmax hok)
  have HRR := Lib.hid hR
  obtain ⟨wa, hwa⟩ : ∃ wa, wa = w.alloc (.cells #[.slice (some ⟨b, off, none⟩) d.size cap, .int .i64 rest] 32) := ⟨_, rfl⟩
  have c0 : wa.cell? ⟨w.heap.size, 0, none⟩ = some (.slice (some ⟨b, off, none⟩) d.size cap) := by rw [hwa]; simp
  have c1 : wa.cell? ⟨w.heap.size, 1, none⟩ = some (.int .i64 rest) := by rw [hwa]; simp
  have hz : w.heap.size < wa.heap.size := by rw [hwa]; simp
  have hba : RowKit.Below w.heap.size w wa := by rw [hwa]; exact (Below.refl _ _).alloc (Nat.le_refl _) _
  have HA := Lib.hid hba
  have C0 := Lib.hid c0
  have C1 := Lib.hid c1
  have HWA := Lib.hid hwa
  clear hba c0 c1 hwa hR hE
  cases hsw : swB d rest
  all_goals
    rw [hsw] at hv
    have HV := Lib.hid hv
    have HS := Lib.hid hsw
    have a0 := C0.out
    have a1 := C1.out
    clear hv hsw
    go_enter Tryd.func31, Tryd.ntmps31
    go_wp2_with fail
    rw [← HWA.out]
    refine (HV.out _ HA.out).mono ?_
    rintro x w1 ⟨rfl, hb⟩
    have HB := Lib.hid (HA.out.trans (hb.mono HA.out.size))
    have HBA := Lib.hid hb
    have b0 := (hb.cell (p := ⟨w.heap.size, 0, none⟩) hz).trans C0.out
    have b1 := (hb.cell (p := ⟨w.heap.size, 1, none⟩) hz).trans C1.out
    clear hb a0 a1
    go_wp2_with fail
  · go_ret2
    exact ⟨retTgW (by rw [bestMN, if_neg (by rw [HS.out]; exact Bool.false_ne_true)]) rfl, HB.out⟩
  · have HO := Lib.hid ((swB_iff _ _).1 HS.out)
    refine (HCT.out HO.out _ HB.out).mono ?_
    rintro x w2 ⟨rfl, hb⟩
    have HB2 := Lib.hid (HB.out.trans (hb.mono HB.out.size))
    have HBA2 := Lib.hid (HBA.out.trans (hb.mono HBA.out.size))
    have hz2 := HBA2.out.size
    clear hb b0 b1
    have hlr : ∀ x ∈ lettersTo d 8, 0 ≤ x ∧ x ≤ 255 := fun x hx => by have := lettersTo_range d x hx; omega
    have hln := lettersTo_length d 8
    have hsz := strOf_size (lettersTo d 8)
    have hby : byA (strOf (lettersTo d 8)) = letA d := byA_strOf hlr
    have hla := letA_size d
    obtain ⟨o, ho⟩ : ∃ o, o = strOf (lettersTo d 8) := ⟨_, rfl⟩
    rw [← ho] at hsz hby ⊢
    have hon : o.size = (letA d).size := by rw [hsz, hla]
    have hcv := run_bytes_of_string (P := Tryd.prog) w2 9 69 61 o Tryd.underlying9 Tryd.underlying69 Tryd.underlying61
    obtain ⟨gc, hgc⟩ : ∃ gc, gc = grownCap w2 o.size 0 61 := ⟨_, rfl⟩
    rw [← hgc] at hcv
    have HON := Lib.hid hon
    have HBY := Lib.hid hby
    have H8 := Lib.hid (show (letA d).size ≤ 8 by omega)
    clear hgc ho hlr hln hsz hla hby hon
    go_wp2_with fail
    have hWh : ((w2.alloc (.cells (bytesRow o gc) 61 ((bytesRow o gc).size, (bytesRow o gc).size + 1))).drew).heap[w2.heap.size]? = some (.cells (bytesRow o gc) 61 ((bytesRow o gc).size, (bytesRow o gc).size + 1)) := World.alloc_heap_new w2 _
    have hWB : RowKit.Below wa.heap.size wa ((w2.alloc (.cells (bytesRow o gc) 61 ((bytesRow o gc).size, (bytesRow o gc).size + 1))).drew) := (HBA2.out.alloc hz2 _).drew
    have hWZ : ((w2.alloc (.cells (bytesRow o gc) 61 ((bytesRow o gc).size, (bytesRow o gc).size + 1))).drew).heap.size = w2.heap.size + 1 := by simp [World.drew]
    generalize ((w2.alloc (.cells (bytesRow o gc) 61 ((bytesRow o gc).size, (bytesRow o gc).size + 1))).drew) = W2 at hWh hWB hWZ ⊢
    have hH := holds_bytesRow hWh
    rw [HBY.out] at hH
    have HR2 := Lib.hid (HRR.out.below (HA.out.trans (hWB.mono HA.out.size)))
    have s0 := (hWB.cell (p := ⟨w.heap.size, 0, none⟩) hz).trans C0.out
    have s1 := (hWB.cell (p := ⟨w.heap.size, 1, none⟩) hz).trans C1.out
    have hbl : b < w2.heap.size := Nat.lt_of_lt_of_le HRR.out.old HB2.out.size
    have hsort := sortStableB_any w2.heap.size gc (letA d) W2 hH H8.out 63 #[.pointer (some ⟨w.heap.size, 0, none⟩)] (hvyC d rest) (fun z => ∃ c : UInt8, z = (c.toNat : Int))
      (by
        rintro x y W ⟨x', rfl⟩ ⟨y', rfl⟩ hg
        have hr : RowC W b off d := HR2.out.keptB hg (by intro e; cases e; omega)
        have hc : ∀ j, W.cell? ⟨w.heap.size, j, none⟩ = W2.cell? ⟨w.heap.size, j, none⟩ := fun j => World.cell?_of_block (w := W2) (hg.block w.heap.size (by omega) (by intro e; have e2 : w.heap.size = w2.heap.size := Option.some.inj e; omega))
        exact hvyCmp_any b off cap w.heap.size d rest x' y' W hr (Nat.lt_of_lt_of_le (by omega) hg.size) ((hc 0).trans s0) ((hc 1).trans s1) HO.out)
      (fun j hj => by have := letA_range d j hj; exact byte_of (by omega) (by omega)) (by omega) (enters_of Tryd.func63 (by kernel_rfl) rfl)
    rw [← HON.out, hvyC_lt] at hsort
    have HSORT := Lib.hid hsort
    have HWB := Lib.hid hWB
    have HW2Z := Lib.hid hWZ
    clear hsort hWh hWB hWZ hH s0 s1
    go_wp2_with fail
    refine HSORT.out.mono ?_
    rintro x w3 ⟨rfl, hbo, hg3⟩
    have hB3 : RowKit.Below wa.heap.size wa w3 := HWB.out.grown hg3 (by have := HW2Z.out; omega) (fun q hq => by cases hq; omega)
    have hfin : bestMN d rest = strOf (insertionSort (hvy d rest) (letA d) 0 (letA d).size).toList := by rw [bestMN, if_pos HS.out]; rfl
    have hqs : (insertionSort (hvy d rest) (letA d) 0 (letA d).size).size = (letA d).size := by rw [ins_sort, insTo_size]
    rw [HON.out] at hbo
    obtain ⟨q, hq⟩ : ∃ q, q = insertionSort (hvy d rest) (letA d) 0 (letA d).size := ⟨_, rfl⟩
    rw [← hq] at hbo hfin hqs
    clear hq
    have hql : q.toList.length = o.size := by rw [Array.length_toList, hqs, HON.out]
    have hcb := targets_string (W := w3) (g := w2.heap.size) (cap := gc) q.toList (fun j v hj => by
      have hj' : j < q.size := by have := (List.getElem?_eq_some_iff.1 hj).1; simpa using this
      have := (hbo j hj').1
      rw [Nat.zero_add] at this
      rw [this, ← hj]
      simp [hj'])
    rw [hql] at hcb
    have HFN := Lib.hid hfin
    have HWW := Lib.hid (HA.out.trans (hB3.mono HA.out.size))
    clear hbo hg3 hB3 hfin hqs hql
    go_wp2_with fail
    go_ret2
    exact ⟨retTgW HFN.out.symm rfl, HWW.out⟩
end Go.Proofs.YtbhamkmiagdimaaDoor
