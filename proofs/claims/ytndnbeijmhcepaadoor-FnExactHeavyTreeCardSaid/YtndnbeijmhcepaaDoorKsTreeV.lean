
/- Trees made of segments, the model: its nodes' texts, l4Part, l4Even. -/
import Derived.Test.YtndnbeijmhcepaaDoorKsTreeU
import Derived.Test.YtndnbeijmhcepaaDoorKsTreeM
namespace Go.Proofs.YtndnbeijmhcepaaDoor
open Go.RowKit Go.Shelf

set_option maxRecDepth 100000 in
set_option maxHeartbeats 1000000 in
theorem specText_any : ∀ (t : TreeD), goodT t → (textL t).length ≤ 10000 → ∀ (b : Nat) (w : World) (tg : ByteArray) (k : Int) (sd : Value), NodeIs b w t tg k sd →
    Calls Tryd.prog 34 #[.agg #[.string tg, .int .i64 k, sd]] w fun x w' => x = .returned (.string (textT t)) ∧ Below w.heap.size w w'
  | .leaf c, _, _, b, w, tg, k, _, ⟨e, a, cap, rfl⟩ => by
    have HE := Lib.hid (show tg = textT (.leaf c) from e)
    clear e
    go_enter Tryd.func34, Tryd.ntmps34
    go_wp2
    go_ret
    exact ⟨by rw [← HE.out]; rfl, (Below.refl _ _).alloc (Nat.le_refl _) _⟩
  | .cmp kk l r, hg, hl, b, w, tg, k, _, ⟨ek, B, cap, tl, kl, sl, tr, kr, sr, rfl, hB, hlt, hcells, nl, nr⟩ => by
    obtain ⟨al, nl', cl, rfl⟩ := nl.slice
    obtain ⟨ar, nr', cr, rfl⟩ := nr.slice
    simp only [textL, List.length_cons, List.length_append, List.length_nil] at hl
    have CL := Lib.hid (fun W hW => specText_any l hg.2.1 (by omega) b W tl kl _ (nl.below hW))
    have CR := Lib.hid (fun W hW => specText_any r hg.2.2 (by omega) b W tr kr _ (nr.below hW))
    have hdc := Lib.hid (fun W => dec_any k (by rw [ek]; have := hg.1; omega) (by rw [ek]; have := hg.1; omega) W)
    have hsk := itoaS_size (n := k) (by rw [ek]; have := hg.1; omega) (by rw [ek]; have := hg.1; omega)
    have z1 : (textT l).size ≤ 10000 := by rw [textT_size]; omega
    have z2 : (textT r).size ≤ 10000 := by rw [textT_size]; omega
    have HT := Lib.hid (show textT (.cmp kk l r) = ((((openS ++ itoaS k) ++ textT l) ++ commaT) ++ textT r) ++ closeS by rw [ek]; exact textT_cmp kk l r)
    obtain ⟨q, hq⟩ : ∃ q, q = textT (.cmp kk l r) := ⟨_, rfl⟩
    obtain ⟨s0, hs0⟩ : ∃ s, s = itoaS k := ⟨_, rfl⟩
    obtain ⟨s1, hs1⟩ : ∃ s, s = textT l := ⟨_, rfl⟩
    obtain ⟨s2, hs2⟩ : ∃ s, s = textT r := ⟨_, rfl⟩
    rw [← hq] at HT ⊢
    rw [← hs0] at HT hdc hsk
    rw [← hs1] at HT CL z1
    rw [← hs2] at HT CR z2
    obtain ⟨h0, h1, h2, h3, h4, h5⟩ := hcells
    obtain ⟨wa, hwa⟩ : ∃ wa, wa = w.alloc (.cells #[.string tg, .int .i64 k, .slice (some ⟨B, 0, none⟩) 2 cap] 59) := ⟨_, rfl⟩
    have hba : Below w.heap.size w wa := by rw [hwa]; exact (Below.refl _ _).alloc (Nat.le_refl _) _
    have X : Box3 wa w.heap.size 59 (.string tg) (.int .i64 k) (.slice (some ⟨B, 0, none⟩) 2 cap) := by rw [hwa]; exact Box3.new _ _ _ _ _
    have x1 := fun p : BW wa => p.cell (a := ⟨w.heap.size, 1, none⟩) X.lt X.c1
    have x2 := fun p : BW wa => p.cell (a := ⟨w.heap.size, 2, none⟩) X.lt X.c2
    have hlt2 : B < wa.heap.size := Nat.lt_of_lt_of_le hlt hba.size
    have y0 := fun p : BW wa => p.cell (a := ⟨B, 0, none⟩) hlt2 ((hba.cell (p := ⟨B, 0, none⟩) hlt).trans h0)
    have y1 := fun p : BW wa => p.cell (a := ⟨B, 1, none⟩) hlt2 ((hba.cell (p := ⟨B, 1, none⟩) hlt).trans h1)
    have y2 := fun p : BW wa => p.cell (a := ⟨B, 2, none⟩) hlt2 ((hba.cell (p := ⟨B, 2, none⟩) hlt).trans h2)
    have y3 := fun p : BW wa => p.cell (a := ⟨B, 3, none⟩) hlt2 ((hba.cell (p := ⟨B, 3, none⟩) hlt).trans h3)
    have y4 := fun p : BW wa => p.cell (a := ⟨B, 4, none⟩) hlt2 ((hba.cell (p := ⟨B, 4, none⟩) hlt).trans h4)
    have y5 := fun p : BW wa => p.cell (a := ⟨B, 5, none⟩) hlt2 ((hba.cell (p := ⟨B, 5, none⟩) hlt).trans h5)
    have xx2 := X.c2
    have QL := Lib.hid (fun p : BW wa => CL.out p.W (hba.trans (p.h.mono hba.size)))
    have QR := Lib.hid (fun p : BW wa => CR.out p.W (hba.trans (p.h.mono hba.size)))
    have HBA := Lib.hid hba
    have HWA := Lib.hid hwa
    clear hba hwa X CL CR h0 h1 h2 h3 h4 h5 hs0 hs1 hs2 hq ek hg hl nl nr
    go_enter Tryd.func34, Tryd.ntmps34
    go_wp2_with fail
    rw [← HWA.out]
    refine wp_region_bw (by kernel_rfl) (by kernel_rfl) ?_
    repeat (go_big_quiet_step ((first | (go_at_call 34; (with_reducible refine bw_of (QL.out _))) | (go_at_call 34; (with_reducible refine bw_of (QR.out _))) | (go_at_call 28; refine bw_of (hdc.out _)))))
    refine wpQuiet_nil ?_
    rintro _ ⟨p, rfl⟩
    go_wp2
    go_ret
    exact ⟨retStr HT.out.symm, HBA.out.trans (p.h.mono HBA.out.size)⟩

set_option maxRecDepth 100000 in
set_option maxHeartbeats 1000000 in
theorem part_any (lo hi : Int) (tc : ByteArray) (wt : Int) (ta tb : TreeD) (b : Nat) (tl tr : ByteArray) (kl kr : Int) (al ar : Option Addr) (nl cl nr cr : Nat) (w : World) (ha : NodeIs b w ta tl kl (.slice al nl cl)) (hb : NodeIs b w tb tr kr (.slice ar nr cr)) (hbw : b ≤ w.heap.size) :
    Calls Tryd.prog 58 #[.agg #[.int .i64 lo, .int .i64 hi, .string tc, .int .i64 wt], .agg #[.string tl, .int .i64 kl, .slice al nl cl], .agg #[.string tr, .int .i64 kr, .slice ar nr cr]] w
      fun x w' => (∃ (tg : ByteArray) (k : Int) (sd : Value), x = .returned (.agg #[.string tg, .int .i64 k, sd]) ∧ NodeIs b w' (.cmp lo ta tb) tg k sd) ∧ Below w.heap.size w w' := by
  have HA := Lib.hid ha
  have HB := Lib.hid hb
  clear ha hb
  go_enter Tryd.func58, Tryd.ntmps58
  go_wp2
  refine bodyPost_ret (v := .agg #[.string ⟨#[]⟩, .int .i64 lo, .slice (some ⟨w.heap.size + 1 + 1 + 1 + 1, 0, none⟩) 2 2]) (by simp [results, Tryd.results58, go_sem]) rfl ?_
  have hW : ∀ o1 o2 o3 o4 o5, Below w.heap.size w (((((w.alloc o1).alloc o2).alloc o3).alloc o4).alloc o5) := fun o1 o2 o3 o4 o5 => (((((Below.refl _ _).alloc (Nat.le_refl _) o1).alloc (by simp) o2).alloc (by simp; omega) o3).alloc (by simp; omega) o4).alloc (by simp; omega) o5
  exact ⟨⟨_, _, _, rfl, rfl, w.heap.size + 1 + 1 + 1 + 1, 2, tl, kl, _, tr, kr, _, rfl, by omega, by simp, ⟨by simp [go_sem], by simp [go_sem], by simp [go_sem], by simp [go_sem], by simp [go_sem], by simp [go_sem]⟩, HA.out.below (hW _ _ _ _ _), HB.out.below (hW _ _ _ _ _)⟩, hW _ _ _ _ _⟩

theorem cells_past {w w' : World} {b o : Nat} {v0 v1 v2 v3 : Value} {row : Option Nat} (hne : some b ≠ row) (h : w.cell? ⟨b, o, none⟩ = some v0 ∧ w.cell? ⟨b, o + 1, none⟩ = some v1 ∧ w.cell? ⟨b, o + 2, none⟩ = some v2 ∧ w.cell? ⟨b, o + 3, none⟩ = some v3) (g : w.grownBy w' row) :
    w'.cell? ⟨b, o, none⟩ = some v0 ∧ w'.cell? ⟨b, o + 1, none⟩ = some v1 ∧ w'.cell? ⟨b, o + 2, none⟩ = some v2 ∧ w'.cell? ⟨b, o + 3, none⟩ = some v3 :=
  ⟨g.cell h.1 hne, g.cell h.2.1 hne, g.cell h.2.2.1 hne, g.cell h.2.2.2 hne⟩
set_option maxRecDepth 100000 in
set_option maxHeartbeats 2000000 in
theorem even_any : ∀ (f : Nat) (l : List CaseD), 0 < l.length → l.length ≤ f → l.length ≤ 17 → (∀ c ∈ l, okB c = true) → ∀ (b off cap : Nat) (w : World), SegsAt w b off l → l.length ≤ cap → cap ≤ maxLen →
    Calls Tryd.prog 35 #[.slice (some ⟨b, off, none⟩) l.length cap] w fun x w' => (∃ (tg : ByteArray) (k : Int) (sd : Value), x = .returned (.agg #[.string tg, .int .i64 k, sd]) ∧ NodeIs w.heap.size w' (partT midP f l) tg k sd) ∧ Below w.heap.size w w'
  | 0, l, h0, hf => by omega
  | f + 1, l, h0, hf => by
    intro h17 hok b off cap w hS hcap hmax
    by_cases h1 : l.length ≤ 1
    · have hl1 : l.length = 1 := by omega
      have x2 := hS.target 0 (by simp; omega)
      have hc := (okB_iff _).1 (hok l[0]! (by rw [getElem!_pos l 0 h0]; exact List.getElem_mem _))
      have e0 : l.toArray[0]! = l[0]! := by simp
      rw [e0] at x2
      have HTG := Lib.hid (tgC_eq hc.2.2.2.2.2)
      have HE := Lib.hid (show partT midP (f + 1) l = .leaf (tgC l[0]!) by rw [partT, if_pos h1])
      obtain ⟨tc, htc⟩ : ∃ tc, tc = l[0]!.target := ⟨_, rfl⟩
      rw [← htc] at x2 HTG
      rw [hl1]
      have hold := hS.old
      obtain ⟨wa, hwa⟩ : ∃ wa, wa = w.alloc (.cells #[.string ⟨#[]⟩, .int .i64 0, .slice none 0 0] 59) := ⟨_, rfl⟩
      have hba : Below w.heap.size w wa := by rw [hwa]; exact (Below.refl _ _).alloc (Nat.le_refl _) _
      clear hS htc hc e0 hok h1 hl1
      go_enter Tryd.func35, Tryd.ntmps35
      go_wp2
      refine bodyPost_ret (v := .agg #[.string tc, .int .i64 0, .slice (some ⟨w.heap.size + 1, 0, none⟩) 0 0]) (by simp [results, Tryd.results35, go_sem]) rfl ?_
      rw [HE.out]
      exact ⟨⟨_, _, _, rfl, HTG.out, _, _, rfl⟩, ((Below.refl _ _).alloc (Nat.le_refl _) _).alloc (by simp) _⟩
    · have HE := Lib.hid (show partT midP (f + 1) l = .cmp l[midP l]!.low (partT midP f (l.take (midP l))) (partT midP f (l.drop (midP l))) by rw [partT, if_neg h1])
      obtain ⟨p1, p2⟩ := midP_ok l (by omega)
      have x0 := hS.low (midP l) (by simpa using p2)
      have x1 := hS.high (midP l) (by simpa using p2)
      have x2 := hS.target (midP l) (by simpa using p2)
      have x3 := hS.weight (midP l) (by simpa using p2)
      have e0 : l.toArray[midP l]! = l[midP l]! := by simp
      rw [e0] at x0 x1 x2 x3
      have CL := Lib.hid (fun W (hW : Below w.heap.size w W) => even_any f (l.take (midP l)) (by rw [List.length_take]; omega) (by rw [List.length_take]; omega) (by rw [List.length_take]; omega) (fun c hc => hok c (List.mem_of_mem_take hc)) b off cap W (SegsAt.take (hS.below hW) _) (by rw [List.length_take]; omega) hmax)
      have CR := Lib.hid (fun W (hW : Below w.heap.size w W) => even_any f (l.drop (midP l)) (by rw [List.length_drop]; omega) (by rw [List.length_drop]; omega) (by rw [List.length_drop]; omega) (fun c hc => hok c (List.mem_of_mem_drop hc)) b (off + midP l * 4) (cap - midP l) W (SegsAt.drop (hS.below hW) _) (by rw [List.length_drop]; omega) (by omega))
      have ht1 : (l.take (midP l)).length = midP l := by rw [List.length_take]; omega
      have ht2 : (l.drop (midP l)).length = l.length - midP l := List.length_drop
      rw [ht1] at CL
      rw [ht2] at CR
      have hd : ((l.length : Nat) : Int).tdiv 2 = ((midP l : Nat) : Int) := by rw [Int.tdiv_eq_ediv_of_nonneg (by omega)]; simp only [midP]; omega
      obtain ⟨p, hp⟩ : ∃ p, p = midP l := ⟨_, rfl⟩
      obtain ⟨n, hn⟩ : ∃ n, n = l.length := ⟨_, rfl⟩
      obtain ⟨c, hc⟩ : ∃ c, c = l[midP l]! := ⟨_, rfl⟩
      rw [← hc] at x0 x1 x2 x3 HE
      rw [← hp] at x0 x1 x2 x3 HE CL CR p1 p2 hd
      rw [← hn] at CR p2 h1 h17 hcap hd ⊢
      have HOLD := Lib.hid hS.old
      have hpi : (p : Int) < (n : Int) := by omega
      have hni : (n : Int) ≤ 17 := by omega
      have hcapi : (n : Int) ≤ (cap : Int) := by omega
      have hn1 : ¬ (n : Int) = 1 := by omega
      have hp0 : (0 : Int) ≤ (p : Int) := by omega
      have hpn : (p : Int) ≤ (n : Int) := by omega
      have hpc : (p : Int) ≤ (cap : Int) := by omega
      have hold := hS.old
      obtain ⟨lo, hi, tc, wt⟩ := c
      simp only at x0 x1 x2 x3
      obtain ⟨wa, hwa⟩ : ∃ wa, wa = w.alloc (.cells #[.string ⟨#[]⟩, .int .i64 0, .slice none 0 0] 59) := ⟨_, rfl⟩
      have hba : Below w.heap.size w wa := by rw [hwa]; exact (Below.refl _ _).alloc (Nat.le_refl _) _
      have HX := Lib.hid (show Box3 wa w.heap.size 59 (.string ⟨#[]⟩) (.int .i64 0) (.slice none 0 0) by rw [hwa]; exact Box3.new _ _ _ _ _)
      have a0 := (hba.cell (p := ⟨b, off + p * 4, none⟩) hold).trans x0
      have a1 := (hba.cell (p := ⟨b, off + p * 4 + 1, none⟩) hold).trans x1
      have a2 := (hba.cell (p := ⟨b, off + p * 4 + 2, none⟩) hold).trans x2
      have a3 := (hba.cell (p := ⟨b, off + p * 4 + 3, none⟩) hold).trans x3
      have hza : wa.heap.size = w.heap.size + 1 := by rw [hwa]; simp
      have HBA := Lib.hid hba
      have HBAd := Lib.hid hba.drew
      have HWA := Lib.hid hwa
      have hlt : b < wa.heap.size := by omega
      have hneX : some b ≠ some w.heap.size := by simp; omega
      clear hS hok hp hn h0 hf ht1 ht2 x0 x1 x2 x3 hba hwa hc e0
      go_enter Tryd.func35, Tryd.ntmps35
      go_wp2_with fail
      rw [← HWA.out]
      go_region_held3 (fun w' => w'.cell? ⟨b, off + p * 4, none⟩ = some (.int .i64 lo) ∧ w'.cell? ⟨b, off + p * 4 + 1, none⟩ = some (.int .i64 hi) ∧ w'.cell? ⟨b, off + p * 4 + 2, none⟩ = some (.string tc) ∧ w'.cell? ⟨b, off + p * 4 + 3, none⟩ = some (.int .i64 wt)) (first | exact ⟨a0, a1, a2, a3⟩ | exact Y2.out | exact Y3.out | exact Y4.out | exact Y5.out | go_keep) (first
        | (go_at_call 35; (with_reducible refine (CL.out _ HBAd.out).mono ?_); rintro _ w2 ⟨⟨tg1, k1, sd1, rfl, n1⟩, b2⟩; obtain ⟨q1, m1, c1, rfl⟩ := n1.slice; have hb2 : Below wa.heap.size wa w2 := ⟨b2.os, b2.tape, b2.output, b2.size, b2.block⟩; have HB2 := Lib.hid (HBA.out.trans (hb2.mono HBA.out.size)); have HN1 := Lib.hid (show NodeIs wa.heap.size w2 _ _ _ _ from n1); have Y2 := Lib.hid (show w2.cell? ⟨b, off + p * 4, none⟩ = some (.int .i64 lo) ∧ w2.cell? ⟨b, off + p * 4 + 1, none⟩ = some (.int .i64 hi) ∧ w2.cell? ⟨b, off + p * 4 + 2, none⟩ = some (.string tc) ∧ w2.cell? ⟨b, off + p * 4 + 3, none⟩ = some (.int .i64 wt) from ⟨(hb2.cell (p := ⟨b, _, none⟩) hlt).trans a0, (hb2.cell (p := ⟨b, _, none⟩) hlt).trans a1, (hb2.cell (p := ⟨b, _, none⟩) hlt).trans a2, (hb2.cell (p := ⟨b, _, none⟩) hlt).trans a3⟩); have HX2 := Lib.hid (HX.out.kept (grown_of_belowT hb2 none) (by simp)); have hlt2 : b < w2.heap.size := Nat.lt_of_lt_of_le hlt hb2.size; have hle2 := hb2.size; clear b2 hb2 n1)
        | (go_at_call 35; (with_reducible refine (CR.out _ HB2.out).mono ?_); rintro _ w3 ⟨⟨tg2, k2, sd2, rfl, n2⟩, b3⟩; obtain ⟨q2, m2, c2, rfl⟩ := n2.slice; have hb3 : Below w2.heap.size w2 w3 := ⟨b3.os, b3.tape, b3.output, b3.size, b3.block⟩; have HB3 := Lib.hid (HB2.out.trans (hb3.mono HB2.out.size)); have HN2 := Lib.hid ((show NodeIs w2.heap.size w3 _ _ _ _ from n2).base hle2); have HN3 := Lib.hid (HN1.out.below hb3); have hle3 := Nat.le_trans hle2 hb3.size; have Y3 := Lib.hid (show w3.cell? ⟨b, off + p * 4, none⟩ = some (.int .i64 lo) ∧ w3.cell? ⟨b, off + p * 4 + 1, none⟩ = some (.int .i64 hi) ∧ w3.cell? ⟨b, off + p * 4 + 2, none⟩ = some (.string tc) ∧ w3.cell? ⟨b, off + p * 4 + 3, none⟩ = some (.int .i64 wt) from ⟨(hb3.cell (p := ⟨b, _, none⟩) hlt2).trans Y2.out.1, (hb3.cell (p := ⟨b, _, none⟩) hlt2).trans Y2.out.2.1, (hb3.cell (p := ⟨b, _, none⟩) hlt2).trans Y2.out.2.2.1, (hb3.cell (p := ⟨b, _, none⟩) hlt2).trans Y2.out.2.2.2⟩); have HX3 := Lib.hid (HX2.out.kept (grown_of_belowT hb3 none) (by simp)); have hlt3 : b < w3.heap.size := Nat.lt_of_lt_of_le hlt2 hb3.size; clear b3 hb3 n2)
        | (go_at_call 58; (with_reducible refine (part_any lo hi tc wt _ _ wa.heap.size _ _ _ _ _ _ _ _ _ _ _ HN3.out HN2.out hle3).mono ?_); rintro _ w4 ⟨⟨tg4, k4, sd4, rfl, n4⟩, b4⟩; obtain ⟨q4, m4, c4, rfl⟩ := n4.slice; have HB4 := Lib.hid (HB3.out.trans (b4.mono HB3.out.size)); have HN4 := Lib.hid n4; have HX4 := Lib.hid (HX3.out.kept (grown_of_belowT b4 none) (by simp)); have v0 := HX4.out.c0; have v1 := HX4.out.c1; have v2 := HX4.out.c2; have z0 := HX4.out.z 0; have z1 := HX4.out.z 1; have z2 := HX4.out.z 2; have Y4 := Lib.hid (show w4.cell? ⟨b, off + p * 4, none⟩ = some (.int .i64 lo) ∧ w4.cell? ⟨b, off + p * 4 + 1, none⟩ = some (.int .i64 hi) ∧ w4.cell? ⟨b, off + p * 4 + 2, none⟩ = some (.string tc) ∧ w4.cell? ⟨b, off + p * 4 + 3, none⟩ = some (.int .i64 wt) from ⟨(b4.cell (p := ⟨b, _, none⟩) hlt3).trans Y3.out.1, (b4.cell (p := ⟨b, _, none⟩) hlt3).trans Y3.out.2.1, (b4.cell (p := ⟨b, _, none⟩) hlt3).trans Y3.out.2.2.1, (b4.cell (p := ⟨b, _, none⟩) hlt3).trans Y3.out.2.2.2⟩); have Y5 := Lib.hid (cells_past hneX Y4.out (((grown_setCell w4 w.heap.size 0 (.string tg4)).trans (grown_setCell _ w.heap.size 1 (.int .i64 k4))).trans (grown_setCell _ w.heap.size 2 (.slice q4 m4 c4)))); clear b4 n4))
      all_goals
        go_wp2
        have HY := ((HX4.out.set0 (.string tg4)).set1 (.int .i64 k4)).set2 (.slice q4 m4 c4)
        refine bodyPost_ret (v := .agg #[.string tg4, .int .i64 k4, .slice q4 m4 c4]) (by simp [results, Tryd.results35, go_sem, HY.c0, HY.c1, HY.c2]) rfl ?_
        rw [HE.out]
        have G := ((grown_setCell w4 w.heap.size 0 (.string tg4)).trans (grown_setCell _ w.heap.size 1 (.int .i64 k4))).trans (grown_setCell _ w.heap.size 2 (.slice q4 m4 c4))
        exact ⟨⟨_, _, _, rfl, (HN4.out.kept G (fun q e => by cases e; omega)).base (by omega)⟩, below_setX (below_setX (below_setX HB4.out 0 _) 1 _) 2 _⟩
end Go.Proofs.YtndnbeijmhcepaaDoor
