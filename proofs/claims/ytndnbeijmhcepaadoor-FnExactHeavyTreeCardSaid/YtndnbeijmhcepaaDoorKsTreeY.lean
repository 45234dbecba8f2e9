
/- HeavyTree of the model: l4Weight, l4Apart, l4Heavy. -/
import Derived.Test.YtndnbeijmhcepaaDoorKsTreeW
import Derived.Test.YtndnbeijmhcepaaDoorKsTreeX
namespace Go.Proofs.YtndnbeijmhcepaaDoor
open Go.RowKit Go.Shelf

set_option maxRecDepth 100000 in
set_option maxHeartbeats 1000000 in
theorem weight4_any (l : List CaseD) (b off cap : Nat) (w : World) (hS : SegsAt w b off l) (h17 : l.length ≤ 17) (hok : ∀ c ∈ l, okB c = true) :
    Calls Tryd.prog 77 #[.slice (some ⟨b, off, none⟩) l.length cap] w fun x w' => x = .returned (.int .i64 (wsum l)) ∧ Below w.heap.size w w' := by
  have HS := Lib.hid hS
  have hni : ((l.length : Nat) : Int) ≤ 17 := by omega
  have HWB := Lib.hid (fun k => wsum_bound _ (l.take k) (Nat.le_refl _) (fun c hc => hok c (List.mem_of_mem_take hc)))
  have HWS := Lib.hid (fun k (h : k < l.length) => wsum_take_succ h)
  have HOKI := Lib.hid (fun k (h : k < l.length) => (okB_iff _).1 (hok l[k]! (by rw [getElem!_pos l k h]; exact List.getElem_mem _)))
  obtain ⟨n, hn⟩ : ∃ n, n = l.length := ⟨_, rfl⟩
  rw [← hn] at hni h17 HWS HOKI ⊢
  have HN := Lib.hid hn
  clear hn hS hok
  go_enter Tryd.func77, Tryd.ntmps77
  go_wp2_with fail
  go_loopw [3, 8] (fun bh ix wr => ∃ k : Nat, ix = .int .i64 k ∧ bh = .int .i64 (wsum (l.take k)) ∧ k ≤ n ∧ Hid (Below w.heap.size w wr)) (fun _ ix _ => n - (RowKit.intOf ix).toNat)
  case atStart => exact ⟨0, rfl, by simp [wsum], Nat.zero_le _, Lib.hid (Below.refl _ _)⟩
  case round =>
    obtain ⟨k, rfl, rfl, hk, HW⟩ := hrel
    have hwb := HWB.out k
    have hlen : (l.take k).length ≤ 17 := by rw [List.length_take]; omega
    obtain ⟨ws, hws⟩ : ∃ ws, ws = wsum (l.take k) := ⟨_, rfl⟩
    rw [← hws] at hwb ⊢
    have hw0 : 0 ≤ ws := hwb.1
    have hw1 : ws ≤ 1683 := by omega
    by_cases hlt : k < n
    · have hr := HS.out.below HW.out
      have e0 : l.toArray[k]! = l[k]! := by simp
      have hks : k < l.toArray.size := by have := HN.out; simp; omega
      have x0 := hr.low k hks
      have x1 := hr.high k hks
      have x2 := hr.target k hks
      have x3 := hr.weight k hks
      rw [e0] at x0 x1 x2 x3
      have hc := HOKI.out k hlt
      have HS1 := Lib.hid (show wsum (l.take (k + 1)) = ws + l[k]!.weight by rw [hws]; exact HWS.out k hlt)
      obtain ⟨c, hcc⟩ : ∃ c, c = l[k]! := ⟨_, rfl⟩
      rw [← hcc] at x0 x1 x2 x3 hc HS1
      obtain ⟨lo, hi, tc, wt⟩ := c
      simp only at x0 x1 x2 x3 hc HS1
      have hwt0 : 0 ≤ wt := hc.2.2.2.1
      have hwt1 : wt ≤ 99 := hc.2.2.2.2.1
      have hki : (k : Int) < (n : Int) := by omega
      clear hr e0 hks hc hcc hws hwb hlen
      go_wp2_with fail
      go_roundw
      case rel => exact ⟨k + 1, by go_num, by rw [HS1.out], by omega, Lib.hid (HW.out.alloc HW.out.size _)⟩
      case measure => simp [RowKit.intOf]; omega
    · have hke : k = n := by omega
      have HWT := Lib.hid (show ws = wsum l by rw [hws, hke, HN.out, List.take_length])
      clear hws hwb hlen hke
      go_wp2_with fail
      go_ret
      exact ⟨by rw [← HWT.out]; rfl, HW.out⟩

set_option maxRecDepth 100000 in
set_option maxHeartbeats 1000000 in
theorem apart4_any (l : List CaseD) (k b off cap : Nat) (w : World) (hS : SegsAt w b off l) (h17 : l.length ≤ 17) (hok : ∀ c ∈ l, okB c = true) (hk : k < l.length) (hcap : l.length ≤ cap) :
    Calls Tryd.prog 60 #[.slice (some ⟨b, off, none⟩) l.length cap, .int .i64 k] w fun x w' => x = .returned (.int .i64 (apartI l k)) ∧ Below w.heap.size w w' := by
  have ht1 : (l.take k).length = k := by rw [List.length_take]; omega
  have ht2 : (l.drop k).length = l.length - k := List.length_drop
  have hb1 := wsum_bound _ (l.take k) (Nat.le_refl _) (fun c hc => hok c (List.mem_of_mem_take hc))
  have hb2 := wsum_bound _ (l.drop k) (Nat.le_refl _) (fun c hc => hok c (List.mem_of_mem_drop hc))
  have QL := fun p : BW w => weight4_any (l.take k) b off cap p.W (SegsAt.take (hS.below p.h) k) (by omega) (fun c hc => hok c (List.mem_of_mem_take hc))
  have QR := fun p : BW w => weight4_any (l.drop k) b (off + k * 4) (cap - k) p.W (SegsAt.drop (hS.below p.h) k) (by omega) (fun c hc => hok c (List.mem_of_mem_drop hc))
  rw [ht1] at QL hb1
  rw [ht2] at QR hb2
  have HAP := Lib.hid (show apartI l k = max (wsum (l.take k) - wsum (l.drop k)) (-(wsum (l.take k) - wsum (l.drop k))) from rfl)
  obtain ⟨ap, hap⟩ : ∃ ap, ap = apartI l k := ⟨_, rfl⟩
  obtain ⟨A, hA⟩ : ∃ A, A = wsum (l.take k) := ⟨_, rfl⟩
  obtain ⟨B, hB⟩ : ∃ B, B = wsum (l.drop k) := ⟨_, rfl⟩
  obtain ⟨n, hn⟩ : ∃ n, n = l.length := ⟨_, rfl⟩
  rw [← hap] at HAP ⊢
  rw [← hA] at HAP QL hb1
  rw [← hB] at HAP QR hb2
  rw [← hn] at QR hb2 h17 hk hcap ⊢
  have QL := Lib.hid QL
  have QR := Lib.hid QR
  have hA0 : 0 ≤ A := hb1.1
  have hA1 : A ≤ 1683 := by omega
  have hB0 : 0 ≤ B := hb2.1
  have hB1 : B ≤ 1683 := by omega
  have hk0 : (0 : Int) ≤ (k : Int) := by omega
  have hkn : (k : Int) ≤ (n : Int) := by omega
  have hkc : (k : Int) ≤ (cap : Int) := by omega
  have hnc : (n : Int) ≤ (cap : Int) := by omega
  have hck : ¬ cap = k := by omega
  clear hS hok hap hA hB hn hb1 hb2 ht1 ht2
  go_enter Tryd.func60, Tryd.ntmps60
  go_wp2_with fail
  refine wp_region_bw (by kernel_rfl) (by kernel_rfl) ?_
  repeat (go_big_quiet_step ((first | (go_at_call 77; (with_reducible refine bw_of (QL.out _))) | (go_at_call 77; (with_reducible refine bw_of (QR.out _))))))
  refine wpQuiet_nil ?_
  rintro _ ⟨p, rfl⟩
  go_wp2
  go_ret
  exact ⟨by rw [HAP.out]; rfl, p.h⟩

set_option maxRecDepth 100000 in
set_option maxHeartbeats 2000000 in
theorem heavy_any : ∀ (f : Nat) (l : List CaseD), 0 < l.length → l.length ≤ f → l.length ≤ 17 → (∀ c ∈ l, okB c = true) → ∀ (b off cap : Nat) (w : World), SegsAt w b off l → l.length ≤ cap → cap ≤ maxLen →
    Calls Tryd.prog 39 #[.slice (some ⟨b, off, none⟩) l.length cap] w fun x w' => (∃ (tg : ByteArray) (k : Int) (sd : Value), x = .returned (.agg #[.string tg, .int .i64 k, sd]) ∧ NodeIs w.heap.size w' (partT heavyP f l) tg k sd) ∧ Below w.heap.size w w'
  | 0, l, h0, hf => by omega
  | f + 1, l, h0, hf => by
    intro h17 hok b off cap w hS hcap hmax
    by_cases h1 : l.length ≤ 1
    · have hl1 : l.length = 1 := by omega
      have x2 := hS.target 0 (by simp; omega)
      have hc := (okB_iff _).1 (hok l[0]! (by rw [getElem!_pos l 0 h0]; exact List.getElem_mem _))
      have e0 : l.toArray[0]! = l[0]! := by simp
      rw [e0] at x2
      have HTG := Lib.hid (tgC_eq hc.2.2.2.2.2)
      have HE := Lib.hid (show partT heavyP (f + 1) l = .leaf (tgC l[0]!) by rw [partT, if_pos h1])
      obtain ⟨tc, htc⟩ : ∃ tc, tc = l[0]!.target := ⟨_, rfl⟩
      rw [← htc] at x2 HTG
      rw [hl1]
      have hold := hS.old
      obtain ⟨wa, hwa⟩ : ∃ wa, wa = w.alloc (.cells #[.string ⟨#[]⟩, .int .i64 0, .slice none 0 0] 59) := ⟨_, rfl⟩
      have hba : Below w.heap.size w wa := by rw [hwa]; exact (Below.refl _ _).alloc (Nat.le_refl _) _
      clear hS htc hc e0 hok h1 hl1
      go_enter Tryd.func39, Tryd.ntmps39
      go_wp2
      refine bodyPost_ret (v := .agg #[.string tc, .int .i64 0, .slice (some ⟨w.heap.size + 1, 0, none⟩) 0 0]) (by simp [results, Tryd.results39, go_sem]) rfl ?_
      rw [HE.out]
      exact ⟨⟨_, _, _, rfl, HTG.out, _, _, rfl⟩, ((Below.refl _ _).alloc (Nat.le_refl _) _).alloc (by simp) _⟩
    · have HE := Lib.hid (show partT heavyP (f + 1) l = .cmp l[heavyP l]!.low (partT heavyP f (l.take (heavyP l))) (partT heavyP f (l.drop (heavyP l))) by rw [partT, if_neg h1])
      obtain ⟨p1, p2⟩ := heavyP_ok l (by omega)
      have x0 := hS.low (heavyP l) (by simpa using p2)
      have x1 := hS.high (heavyP l) (by simpa using p2)
      have x2 := hS.target (heavyP l) (by simpa using p2)
      have x3 := hS.weight (heavyP l) (by simpa using p2)
      have e0 : l.toArray[heavyP l]! = l[heavyP l]! := by simp
      rw [e0] at x0 x1 x2 x3
      have CL := Lib.hid (fun W (hW : Below w.heap.size w W) => heavy_any f (l.take (heavyP l)) (by rw [List.length_take]; omega) (by rw [List.length_take]; omega) (by rw [List.length_take]; omega) (fun c hc => hok c (List.mem_of_mem_take hc)) b off cap W (SegsAt.take (hS.below hW) _) (by rw [List.length_take]; omega) hmax)
      have CR := Lib.hid (fun W (hW : Below w.heap.size w W) => heavy_any f (l.drop (heavyP l)) (by rw [List.length_drop]; omega) (by rw [List.length_drop]; omega) (by rw [List.length_drop]; omega) (fun c hc => hok c (List.mem_of_mem_drop hc)) b (off + heavyP l * 4) (cap - heavyP l) W (SegsAt.drop (hS.below hW) _) (by rw [List.length_drop]; omega) (by omega))
      have ht1 : (l.take (heavyP l)).length = heavyP l := by rw [List.length_take]; omega
      have ht2 : (l.drop (heavyP l)).length = l.length - heavyP l := List.length_drop
      rw [ht1] at CL
      rw [ht2] at CR
      have HAP := Lib.hid (fun k (hk : k < l.length) W (hW : Below w.heap.size w W) => apart4_any l k b off cap W (hS.below hW) h17 hok hk hcap)
      have HBI := Lib.hid (fun k => bestI_in l k)
      have HHV := Lib.hid (show heavyP l = bestI l (l.length - 1) from rfl)
      have HBA4 := Lib.hid (fun k => apartI_bound hok h17 k)
      obtain ⟨p, hp⟩ : ∃ p, p = heavyP l := ⟨_, rfl⟩
      obtain ⟨n, hn⟩ : ∃ n, n = l.length := ⟨_, rfl⟩
      obtain ⟨c, hc⟩ : ∃ c, c = l[heavyP l]! := ⟨_, rfl⟩
      rw [← hc] at x0 x1 x2 x3 HE
      rw [← hp] at x0 x1 x2 x3 HE CL CR p1 p2 HHV
      rw [← hn] at CR p2 h1 h17 hcap HAP HHV ⊢
      have HOLD := Lib.hid hS.old
      have hpi : (p : Int) < (n : Int) := by omega
      have hni : (n : Int) ≤ 17 := by omega
      have hcapi : (n : Int) ≤ (cap : Int) := by omega
      have hn1 : ¬ (n : Int) = 1 := by omega
      have hp0 : (0 : Int) ≤ (p : Int) := by omega
      have hpn : (p : Int) ≤ (n : Int) := by omega
      have hpc : (p : Int) ≤ (cap : Int) := by omega
      have hold := hS.old
      obtain ⟨lo, hi, tc, wt⟩ := c
      simp only at x0 x1 x2 x3
      obtain ⟨wa, hwa⟩ : ∃ wa, wa = w.alloc (.cells #[.string ⟨#[]⟩, .int .i64 0, .slice none 0 0] 59) := ⟨_, rfl⟩
      have hba : Below w.heap.size w wa := by rw [hwa]; exact (Below.refl _ _).alloc (Nat.le_refl _) _
      have HX := Lib.hid (show Box3 wa w.heap.size 59 (.string ⟨#[]⟩) (.int .i64 0) (.slice none 0 0) by rw [hwa]; exact Box3.new _ _ _ _ _)
      have a0 := (hba.cell (p := ⟨b, off + p * 4, none⟩) hold).trans x0
      have a1 := (hba.cell (p := ⟨b, off + p * 4 + 1, none⟩) hold).trans x1
      have a2 := (hba.cell (p := ⟨b, off + p * 4 + 2, none⟩) hold).trans x2
      have a3 := (hba.cell (p := ⟨b, off + p * 4 + 3, none⟩) hold).trans x3
      have hza : wa.heap.size = w.heap.size + 1 := by rw [hwa]; simp
      have HBA := Lib.hid hba
      have HBAd := Lib.hid hba.drew
      have HWA := Lib.hid hwa
      have hlt : b < wa.heap.size := by omega
      have hneX : some b ≠ some w.heap.size := by simp; omega
      clear hS hok hp hn h0 hf ht1 ht2 x0 x1 x2 x3 hba hwa hc e0
      go_enter Tryd.func39, Tryd.ntmps39
      go_wp2_with fail
      rw [← HWA.out]
      have h2n : 2 ≤ n := by omega
      go_loopw [3, 4] (fun bv kv wr => ∃ k : Nat, kv = .int .i64 k ∧ 2 ≤ k ∧ k ≤ n ∧ bv = .int .i64 (bestI l (k - 1)) ∧ Hid (Below wa.heap.size wa wr)) (fun _ kv _ => n - (RowKit.intOf kv).toNat)
      case atStart => exact ⟨2, rfl, Nat.le_refl _, h2n, rfl, Lib.hid (Below.refl _ _)⟩
      case round =>
        obtain ⟨k, rfl, hk2, hkn, rfl, HW⟩ := hrel
        by_cases hlt : k < n
        · obtain ⟨j, rfl⟩ : ∃ j, k = j + 2 := ⟨k - 2, by omega⟩
          have hbi := HBI.out (j + 1)
          have e1 : j + 2 - 1 = j + 1 := by omega
          have e2 : j + 2 + 1 - 1 = j + 2 := by omega
          have HN2 := Lib.hid (show bestI l (j + 2) = if apartI l (j + 2) < apartI l (bestI l (j + 1)) then j + 2 else bestI l (j + 1) from rfl)
          rw [e1]
          obtain ⟨m, hm⟩ : ∃ m, m = j + 2 := ⟨_, rfl⟩
          obtain ⟨bb, hbb⟩ : ∃ bb, bb = bestI l (j + 1) := ⟨_, rfl⟩
          rw [← hbb] at hbi HN2 ⊢
          rw [← hm] at HN2 e2 hlt hk2 hkn ⊢
          have hbn : bb < n := by omega
          have HC1 := Lib.hid (fun W hW => HAP.out m hlt W hW)
          have HC2 := Lib.hid (fun W hW => HAP.out bb hbn W hW)
          have hA1 := HBA4.out m
          have hA2 := HBA4.out bb
          have HE2 := Lib.hid e2
          obtain ⟨am, ham⟩ : ∃ am, am = apartI l m := ⟨_, rfl⟩
          obtain ⟨ab, hab⟩ : ∃ ab, ab = apartI l bb := ⟨_, rfl⟩
          rw [← ham] at HC1 HN2 hA1
          rw [← hab] at HC2 HN2 hA2
          have hmi : (m : Int) < (n : Int) := by omega
          have hWW := HBA.out.trans (HW.out.mono HBA.out.size)
          have HWW := Lib.hid hWW
          clear hm hbb ham hab e1 e2 hWW hbi
          by_cases hd : am < ab
          all_goals
            simp only [hd, if_true, if_false] at HN2
            go_wp2_with fail
            refine (HC1.out _ HWW.out).mono ?_
            rintro x w2 ⟨rfl, b2⟩
            have HW2 := Lib.hid (HWW.out.trans (b2.mono HWW.out.size))
            have HV2 := Lib.hid (HW.out.trans (b2.mono HW.out.size))
            clear b2
            go_wp2_with fail
            refine (HC2.out _ HW2.out).mono ?_
            rintro x w3 ⟨rfl, b3⟩
            have HV3 := Lib.hid (HV2.out.trans (b3.mono HV2.out.size))
            clear b3
            go_wp2_with fail
            go_roundw
            case rel => exact ⟨m + 1, by go_num, by omega, by omega, by rw [Nat.add_sub_cancel, HN2.out], HV3.out⟩
            case measure => simp [RowKit.intOf]; omega
        · have hke : k = n := by omega
          subst hke
          rw [← HHV.out]
          have HBAw := Lib.hid (HBA.out.trans (HW.out.mono HBA.out.size))
          have hzw : wa.heap.size ≤ wr.heap.size := HW.out.size
          have r0 := (HW.out.cell (p := ⟨b, off + p * 4, none⟩) (by omega)).trans a0
          have r1 := (HW.out.cell (p := ⟨b, off + p * 4 + 1, none⟩) (by omega)).trans a1
          have r2 := (HW.out.cell (p := ⟨b, off + p * 4 + 2, none⟩) (by omega)).trans a2
          have r3 := (HW.out.cell (p := ⟨b, off + p * 4 + 3, none⟩) (by omega)).trans a3
          have HXw := Lib.hid (HX.out.kept (grown_of_belowT HW.out none) (by simp))
          have hltw : b < wr.heap.size := by omega
          clear a0 a1 a2 a3 hlt HBAd
          have HBAd := Lib.hid HBAw.out.drew
          clear hk2
          go_wp2_with fail
          go_region_held3 (fun w' => w'.cell? ⟨b, off + p * 4, none⟩ = some (.int .i64 lo) ∧ w'.cell? ⟨b, off + p * 4 + 1, none⟩ = some (.int .i64 hi) ∧ w'.cell? ⟨b, off + p * 4 + 2, none⟩ = some (.string tc) ∧ w'.cell? ⟨b, off + p * 4 + 3, none⟩ = some (.int .i64 wt)) (first | exact ⟨r0, r1, r2, r3⟩ | exact Y2.out | exact Y3.out | exact Y4.out | exact Y5.out | go_keep) (first
            | (go_at_call 39; (with_reducible refine (CL.out _ HBAd.out).mono ?_); rintro _ w2 ⟨⟨tg1, k1, sd1, rfl, n1⟩, b2⟩; obtain ⟨q1, m1, c1, rfl⟩ := n1.slice; have hb2 : Below wr.heap.size wr w2 := ⟨b2.os, b2.tape, b2.output, b2.size, b2.block⟩; have HB2 := Lib.hid (HBAw.out.trans (hb2.mono HBAw.out.size)); have HN1 := Lib.hid (show NodeIs wr.heap.size w2 _ _ _ _ from n1); have Y2 := Lib.hid (show w2.cell? ⟨b, off + p * 4, none⟩ = some (.int .i64 lo) ∧ w2.cell? ⟨b, off + p * 4 + 1, none⟩ = some (.int .i64 hi) ∧ w2.cell? ⟨b, off + p * 4 + 2, none⟩ = some (.string tc) ∧ w2.cell? ⟨b, off + p * 4 + 3, none⟩ = some (.int .i64 wt) from ⟨(hb2.cell (p := ⟨b, _, none⟩) hltw).trans r0, (hb2.cell (p := ⟨b, _, none⟩) hltw).trans r1, (hb2.cell (p := ⟨b, _, none⟩) hltw).trans r2, (hb2.cell (p := ⟨b, _, none⟩) hltw).trans r3⟩); have HX2 := Lib.hid (HXw.out.kept (grown_of_belowT hb2 none) (by simp)); have hlt2 : b < w2.heap.size := Nat.lt_of_lt_of_le hltw hb2.size; have hle2 := hb2.size; clear b2 hb2 n1)
            | (go_at_call 39; (with_reducible refine (CR.out _ HB2.out).mono ?_); rintro _ w3 ⟨⟨tg2, k2, sd2, rfl, n2⟩, b3⟩; obtain ⟨q2, m2, c2, rfl⟩ := n2.slice; have hb3 : Below w2.heap.size w2 w3 := ⟨b3.os, b3.tape, b3.output, b3.size, b3.block⟩; have HB3 := Lib.hid (HB2.out.trans (hb3.mono HB2.out.size)); have HN2 := Lib.hid ((show NodeIs w2.heap.size w3 _ _ _ _ from n2).base hle2); have HN3 := Lib.hid (HN1.out.below hb3); have hle3 := Nat.le_trans hle2 hb3.size; have Y3 := Lib.hid (show w3.cell? ⟨b, off + p * 4, none⟩ = some (.int .i64 lo) ∧ w3.cell? ⟨b, off + p * 4 + 1, none⟩ = some (.int .i64 hi) ∧ w3.cell? ⟨b, off + p * 4 + 2, none⟩ = some (.string tc) ∧ w3.cell? ⟨b, off + p * 4 + 3, none⟩ = some (.int .i64 wt) from ⟨(hb3.cell (p := ⟨b, _, none⟩) hlt2).trans Y2.out.1, (hb3.cell (p := ⟨b, _, none⟩) hlt2).trans Y2.out.2.1, (hb3.cell (p := ⟨b, _, none⟩) hlt2).trans Y2.out.2.2.1, (hb3.cell (p := ⟨b, _, none⟩) hlt2).trans Y2.out.2.2.2⟩); have HX3 := Lib.hid (HX2.out.kept (grown_of_belowT hb3 none) (by simp)); have hlt3 : b < w3.heap.size := Nat.lt_of_lt_of_le hlt2 hb3.size; clear b3 hb3 n2)
            | (go_at_call 58; (with_reducible refine (part_any lo hi tc wt _ _ wr.heap.size _ _ _ _ _ _ _ _ _ _ _ HN3.out HN2.out hle3).mono ?_); rintro _ w4 ⟨⟨tg4, k4, sd4, rfl, n4⟩, b4⟩; obtain ⟨q4, m4, c4, rfl⟩ := n4.slice; have HB4 := Lib.hid (HB3.out.trans (b4.mono HB3.out.size)); have HN4 := Lib.hid n4; have HX4 := Lib.hid (HX3.out.kept (grown_of_belowT b4 none) (by simp)); have v0 := HX4.out.c0; have v1 := HX4.out.c1; have v2 := HX4.out.c2; have z0 := HX4.out.z 0; have z1 := HX4.out.z 1; have z2 := HX4.out.z 2; have Y4 := Lib.hid (show w4.cell? ⟨b, off + p * 4, none⟩ = some (.int .i64 lo) ∧ w4.cell? ⟨b, off + p * 4 + 1, none⟩ = some (.int .i64 hi) ∧ w4.cell? ⟨b, off + p * 4 + 2, none⟩ = some (.string tc) ∧ w4.cell? ⟨b, off + p * 4 + 3, none⟩ = some (.int .i64 wt) from ⟨(b4.cell (p := ⟨b, _, none⟩) hlt3).trans Y3.out.1, (b4.cell (p := ⟨b, _, none⟩) hlt3).trans Y3.out.2.1, (b4.cell (p := ⟨b, _, none⟩) hlt3).trans Y3.out.2.2.1, (b4.cell (p := ⟨b, _, none⟩) hlt3).trans Y3.out.2.2.2⟩); have Y5 := Lib.hid (cells_past hneX Y4.out (((grown_setCell w4 w.heap.size 0 (.string tg4)).trans (grown_setCell _ w.heap.size 1 (.int .i64 k4))).trans (grown_setCell _ w.heap.size 2 (.slice q4 m4 c4)))); clear b4 n4))
          all_goals
            go_wp2
            have HY := ((HX4.out.set0 (.string tg4)).set1 (.int .i64 k4)).set2 (.slice q4 m4 c4)
            refine bodyPost_ret (v := .agg #[.string tg4, .int .i64 k4, .slice q4 m4 c4]) (by simp [results, Tryd.results39, go_sem, HY.c0, HY.c1, HY.c2]) rfl ?_
            rw [HE.out]
            have G := ((grown_setCell w4 w.heap.size 0 (.string tg4)).trans (grown_setCell _ w.heap.size 1 (.int .i64 k4))).trans (grown_setCell _ w.heap.size 2 (.slice q4 m4 c4))
            exact ⟨⟨_, _, _, rfl, (HN4.out.kept G (fun q e => by cases e; omega)).base (by omega)⟩, below_setX (below_setX (below_setX HB4.out 0 _) 1 _) 2 _⟩

set_option maxRecDepth 100000 in
set_option maxHeartbeats 1000000 in
theorem specHeavy_any (b off cap : Nat) (d : Array CaseD) (rest : Int) (w : World) (hR : RowC w b off d) (hcap : d.size ≤ cap) (hmax : cap ≤ maxLen) :
    Calls Tryd.prog 18 #[.agg #[.slice (some ⟨b, off, none⟩) d.size cap, .int .i64 rest]] w fun x w' => x = .returned (.tuple #[.string (partS heavyP d rest), .bool (swB d rest)]) ∧ RowKit.Below w.heap.size w w' := by
  have hMk : MakeFn heavyP 39 := heavy_any
  have hP := heavyP_ok
  obtain ⟨P, hPe⟩ : ∃ P, P = heavyP := ⟨_, rfl⟩
  rw [← hPe] at hMk hP ⊢
  clear hPe
  have hv := fun W (hW : RowKit.Below w.heap.size w W) => specValid_any b off cap d rest W (hR.below hW) hcap hmax
  have hk := fun W (hW : RowKit.Below w.heap.size w W) (ho : SwOK d rest) => l2Segments_any b off cap d rest W (hR.below hW) ho
  have HK := Lib.hid hk
  have HMK := Lib.hid hMk
  obtain ⟨wa, hwa⟩ : ∃ wa, wa = w.alloc (.cells #[.slice (some ⟨b, off, none⟩) d.size cap, .int .i64 rest] 35) := ⟨_, rfl⟩
  have c0 : wa.cell? ⟨w.heap.size, 0, none⟩ = some (.slice (some ⟨b, off, none⟩) d.size cap) := by rw [hwa]; simp
  have c1 : wa.cell? ⟨w.heap.size, 1, none⟩ = some (.int .i64 rest) := by rw [hwa]; simp
  have hz : w.heap.size < wa.heap.size := by rw [hwa]; simp
  have hba : RowKit.Below w.heap.size w wa := by rw [hwa]; exact (Below.refl _ _).alloc (Nat.le_refl _) _
  have HA := Lib.hid hba
  have C0 := Lib.hid c0
  have C1 := Lib.hid c1
  have HWA := Lib.hid hwa
  clear hba c0 c1 hwa hR hk hMk
  cases hs : swB d rest
  all_goals
    simp only [hs] at hv
    have HV := Lib.hid hv
    have HS := Lib.hid hs
    clear hv hs
    go_enter Tryd.func18, Tryd.ntmps18
    go_wp2_with fail
    rw [← HWA.out]
    refine (HV.out _ HA.out).mono ?_
    rintro x w1 ⟨rfl, hb⟩
    have HB := Lib.hid hb
    have hz1 := hb.size
    have a0 := (hb.cell (p := ⟨w.heap.size, 0, none⟩) hz).trans C0.out
    have a1 := (hb.cell (p := ⟨w.heap.size, 1, none⟩) hz).trans C1.out
    clear hb
    go_wp2_with fail
  · go_ret2
    exact ⟨ret2s (by rw [partS, if_neg (by rw [HS.out]; exact Bool.false_ne_true)]) rfl, HA.out.trans (HB.out.mono (by omega))⟩
  · have HWB := Lib.hid (HA.out.trans (HB.out.mono (by omega)))
    have hok := (swB_iff _ _).1 HS.out
    have hpos := segs_pos hok
    have h17 := segs_length hok
    have hsl := segs_segL hok
    have hgood := partT_good hP 17 true (segs d rest) hsl hpos
    have hcnt := partT_count hP 17 (segs d rest) hpos h17
    have htl := text_count hgood
    have HX := Lib.hid (fun bb ww tg k sd h => specText_any (partT P 17 (segs d rest)) hgood (by omega) bb ww tg k sd h)
    have HP := Lib.hid (show partS P d rest = textT (partT P 17 (segs d rest)) by rw [partS, if_pos HS.out])
    have HOK := Lib.hid (segs_ok hok)
    refine (HK.out _ HWB.out hok).mono ?_
    rintro x w3 ⟨v, rfl, ho, _, hb3⟩
    obtain ⟨g, cp, rfl, hrow, hc, hm⟩ := segs_row ho hpos
    have HB3 := Lib.hid (HWB.out.trans (hb3.mono HWB.out.size))
    have HT := Lib.hid (HMK.out 17 (segs d rest) hpos h17 h17 HOK.out g 0 cp w3 hrow hc hm)
    obtain ⟨t, ht⟩ : ∃ t, t = partT P 17 (segs d rest) := ⟨_, rfl⟩
    rw [← ht] at HT HX HP
    obtain ⟨n, hn⟩ : ∃ n, n = (segs d rest).length := ⟨_, rfl⟩
    rw [← hn] at HT hc h17 ⊢
    clear hb3 ho hok hpos hsl hrow hgood hcnt htl ht hn
    go_wp2_with fail
    refine HT.out.mono ?_
    rintro x w4 ⟨⟨tg, k, sd, rfl, nd⟩, hb4⟩
    obtain ⟨q, m, cc, rfl⟩ := nd.slice
    have HB4 := Lib.hid (HB3.out.trans (hb4.mono HB3.out.size))
    have HC := Lib.hid (HX.out _ _ _ _ _ nd)
    clear hb4 nd
    go_wp2_with fail
    refine HC.out.mono ?_
    rintro x w5 ⟨rfl, hb5⟩
    have HB5 := Lib.hid (HB4.out.trans (hb5.mono HB4.out.size))
    clear hb5
    go_wp2
    go_ret2
    exact ⟨ret2s HP.out.symm rfl, HB5.out⟩
end Go.Proofs.YtndnbeijmhcepaaDoor
