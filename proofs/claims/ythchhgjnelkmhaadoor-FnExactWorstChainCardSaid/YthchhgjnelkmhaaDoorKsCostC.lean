/- What a chain costs: the program's cost; ChainCost. -/
import Derived.Test.YthchhgjnelkmhaaDoorKsCostM
import Derived.Test.YthchhgjnelkmhaaDoorKsRound
namespace Go.Proofs.YthchhgjnelkmhaaDoor
open Go.RowKit Go.Shelf Go.Lib Go.Sort

attribute [local go_sem] Oper.semAt_some

theorem KpS.drew (K : Nat → Prop) (W : World) : KpS K W W.drew := ⟨Nat.le_refl _, fun _ _ => rfl⟩

set_option maxRecDepth 100000 in
set_option maxHeartbeats 2000000 in
theorem cost_any (b off cap : Nat) (d : Array CaseD) (rest : Int) (bo co : Nat) (o : Array Int) (w : World) (hR : RowC w b off d) (hO : RowN w bo 0 o) (hok : SwOK d rest) (hord : OrdOK d.size o) :
    Calls Tryd.prog 52 #[.slice (some ⟨bo, 0, none⟩) o.size co, .agg #[.slice (some ⟨b, off, none⟩) d.size cap, .int .i64 rest]] w fun x w' => x = .returned (.int .i64 (costN d rest o)) ∧ RowKit.Below w.heap.size w w' := by
  have HR := Lib.hid hR
  have HN := Lib.hid hO
  obtain ⟨wa, hwa⟩ : ∃ wa, wa = w.alloc (.cells #[.slice (some ⟨b, off, none⟩) d.size cap, .int .i64 rest] 30) := ⟨_, rfl⟩
  have c0 : wa.cell? ⟨w.heap.size, 0, none⟩ = some (.slice (some ⟨b, off, none⟩) d.size cap) := by rw [hwa]; simp
  have c1 : wa.cell? ⟨w.heap.size, 1, none⟩ = some (.int .i64 rest) := by rw [hwa]; simp
  have hz : wa.heap.size = w.heap.size + 1 := by rw [hwa]; simp
  have hba : RowKit.Below w.heap.size w wa := by rw [hwa]; exact (Below.refl _ _).alloc (Nat.le_refl _) _
  have HA := Lib.hid hba
  have C0 := Lib.hid c0
  have C1 := Lib.hid c1
  clear hba hR hO
  refine (callsIn_wide (n := 5)).1 ?_
  refine callsIn_of_wp_marks Tryd.func52 rfl trivial ?_ rfl
  simp only [Tryd.ntmps52, List.size_toArray, List.length_cons, List.length_nil, Nat.reduceAdd, Nat.reduceSub, Array.replicate_succ, Array.replicate_zero, List.push_toArray, List.append_toArray, List.nil_append, List.cons_append]
  gi_wp2_with fail
  refine ⟨trivial, ?_⟩
  refine (callsIn_wide.2 (reaches_any (some ⟨bo, 0, none⟩) o.size co (.slice (some ⟨b, off, none⟩) d.size cap) rest _)).mono ?_
  rintro x w2 ⟨rfl, rfl⟩
  gi_wp2_with fail
  have h8n : o.size ≤ 8 := by rw [hord.1]; exact hok.size
  have HOK := Lib.hid hok
  have HORD := Lib.hid hord
  obtain ⟨g, hg⟩ : ∃ g, g = w.heap.size := ⟨_, rfl⟩
  rw [← hwa]
  have bT := (((Boxed.new wa 3 (.int .i64 0)).alloc (.cells #[.int .i64 0] 3)).alloc (.cells #[.slice (some ⟨bo, 0, none⟩) o.size co] 53)).alloc (.cells #[.slice (some ⟨b, off, none⟩) d.size cap, .int .i64 rest] 30)
  have bL := (((Boxed.new (wa.alloc (.cells #[.int .i64 0] 3)) 3 (.int .i64 0))).alloc (.cells #[.slice (some ⟨bo, 0, none⟩) o.size co] 53)).alloc (.cells #[.slice (some ⟨b, off, none⟩) d.size cap, .int .i64 rest] 30)
  obtain ⟨W0, hW0⟩ : ∃ W0, W0 = (((wa.alloc (.cells #[.int .i64 0] 3)).alloc (.cells #[.int .i64 0] 3)).alloc (.cells #[.slice (some ⟨bo, 0, none⟩) o.size co] 53)).alloc (.cells #[.slice (some ⟨b, off, none⟩) d.size cap, .int .i64 rest] 30) := ⟨_, rfl⟩
  have f0 : W0.cell? ⟨wa.heap.size + 2, 0, none⟩ = some (.slice (some ⟨bo, 0, none⟩) o.size co) := by rw [hW0]; simp [go_sem]
  have e0 : W0.cell? ⟨wa.heap.size + 3, 0, none⟩ = some (.slice (some ⟨b, off, none⟩) d.size cap) := by rw [hW0]; simp [go_sem]
  have e1 : W0.cell? ⟨wa.heap.size + 3, 1, none⟩ = some (.int .i64 rest) := by rw [hW0]; simp [go_sem]
  have hsz : W0.heap.size = wa.heap.size + 4 := by rw [hW0]; simp
  have hBa0 : RowKit.Below wa.heap.size wa W0 := by rw [hW0]; exact ((((Below.refl _ _).alloc (Nat.le_refl _) _).alloc (by simp) _).alloc (by simp; omega) _).alloc (by simp; omega) _
  rw [← hW0] at bT bL ⊢
  have hls : (wa.alloc (.cells #[.int .i64 0] 3)).heap.size = wa.heap.size + 1 := by simp
  rw [hls] at bL
  clear hW0 hwa hls c0 c1
  have HB0 := Lib.hid (HA.out.trans (hBa0.mono (by omega)))
  have hI := (⟨e0, e1, by omega, HR.out.below HB0.out, HN.out.below HB0.out⟩ : ItR (wa.heap.size + 3) b off cap bo d rest o W0)
  have hbl : b < w.heap.size := HR.out.old
  have hbol : bo < w.heap.size := HN.out.old
  have hseq := reaches_stops 4 (wa.heap.size + 2) (wa.heap.size + 3) b off cap bo co d rest o W0 (by decide) hok hord f0 (by omega) hI
  rw [hz, ← hg] at bT bL hseq hBa0 hsz hI
  rw [← hg] at hbl hbol ⊢
  have HSEQ := Lib.hid hseq
  have HBA := Lib.hid hBa0
  have hlt0 : g + 4 < W0.heap.size := by omega
  have hg1 : g ≤ w.heap.size := by omega
  have hg2 : w.heap.size ≤ g := by omega
  have hg3 : g + 1 ≤ wa.heap.size := by omega
  have hg4 : wa.heap.size ≤ g + 1 := by omega
  have C0' := Lib.hid (show wa.cell? ⟨g, 0, none⟩ = some (.slice (some ⟨b, off, none⟩) d.size cap) by rw [hg]; exact C0.out)
  have C1' := Lib.hid (show wa.cell? ⟨g, 1, none⟩ = some (.int .i64 rest) by rw [hg]; exact C1.out)
  have HRA := Lib.hid (HR.out.below HA.out)
  clear hseq hI f0 e0 e1 hBa0 hsz hz hok hord C0 C1
  clear hg
  refine wpIn_rangeFunc_ownH rfl (by decide) (gf := 73) (lb := #[.pointer (some ⟨g + 1 + 1 + 1, 0, none⟩), .pointer (some ⟨g + 1 + 1 + 1 + 1, 0, none⟩)]) rfl trivial (enters_of Tryd.func73 (by kernel_rfl) rfl)
    HSEQ.out KpS.trans (kpS_b (by rintro i (rfl | rfl | rfl) <;> omega)) (Below.refl _ _) (fun _ => rfl)
    (fun pre W => (Boxed W (g + 1) 3 (.int .i64 (sumR d (valR pre))) ∧ Boxed W (g + 1 + 1) 3 (.int .i64 (lastR (valR pre)))) ∧ RowKit.Below (g + 1) wa W)
    (fun _ _ _ => False)
    (OwnFrom.and (OwnFrom.and (Own.from (boxed_own _ _ _) _) (Own.from (boxed_own _ _ _) _)) (ownFrom_below (by omega) (by omega)))
    (fun _ _ _ _ _ hs _ _ => hs)
    ⟨⟨bT, bL⟩, HBA.out⟩
    (fun x a' _ => a' = { tmps := #[.slice (some ⟨bo, 0, none⟩) o.size co, .agg #[.slice (some ⟨b, off, none⟩) d.size cap, .int .i64 rest], undef, .pointer (some ⟨g, 0, none⟩), .int .i64 0, .pointer (some ⟨g + 1, 0, none⟩), .pointer (some ⟨g + 1 + 1, 0, none⟩), .int .i64 x.1.1, .int .i64 x.1.2, .slice (some ⟨bo, 0, none⟩) o.size co, .agg #[.slice (some ⟨b, off, none⟩) d.size cap, .int .i64 rest], .func (.func 73) #[] #[.pointer (some ⟨g + 1 + 1 + 1, 0, none⟩), .pointer (some ⟨g + 1 + 1 + 1 + 1, 0, none⟩)],   .int .i64 x.1.1, .int .i64 x.1.2, undef, undef, undef, undef, undef, undef, undef, undef, undef, undef, undef, undef, undef, undef, undef, undef, undef], defers := [] })
    (fun x a' _ X Y row hs hg hr => hs)
    ?assign ?body ?done ?stop
  case assign =>
    rintro l pre x W K hI1 hK
    gi_wp2
    exact hK _ _ ((KeepsOthers.refl _).from _) (KpS.refl _ _) hI1 rfl
  case body =>
    rintro l pre x a' W hl ⟨r, hr⟩ ⟨⟨bT1, bL1⟩, hB1⟩ rfl hlt
    have hcT := bT1.cell
    have hfT := bT1.frozen
    have hfL := bL1.frozen
    have hcL := bL1.cell
    have s0 := (hB1.cell (p := ⟨g, 0, none⟩) (by omega : g < g + 1)).trans C0'.out
    have s1 := (hB1.cell (p := ⟨g, 1, none⟩) (by omega : g < g + 1)).trans C1'.out
    have hsl := sumR_le HOK.out pre
    have hsn := Lib.hid (sumR_snoc d (valR pre) x.1)
    have hln := Lib.hid (lastR_snoc (valR pre) x.1)
    obtain ⟨⟨xi, xr⟩, ⟨hx0, hx1⟩, hx2, hx3⟩ := x
    simp only at hx0 hx1 hx2 hx3
    obtain ⟨t, rfl⟩ : ∃ t : Nat, xi = t := ⟨xi.toNat, by omega⟩
    have htn : t < d.size := by omega
    have y3 := (hB1.cell (p := ⟨b, off + t * 4 + 3, none⟩) (by omega : b < g + 1)).trans (HRA.out.weight t htn)
    have hcw := caseB_weight (HOK.out.case t htn)
    obtain ⟨q, hq⟩ : ∃ q, q = d[t]!.weight := ⟨_, rfl⟩
    simp only [Int.toNat_natCast] at hsn
    rw [← hq] at y3 hcw hsn
    obtain ⟨s, hs⟩ : ∃ s, s = sumR d (valR pre) := ⟨_, rfl⟩
    rw [← hs] at hsl hsn hcT
    have BT := Lib.hid bT1
    have BL := Lib.hid bL1
    have HB1 := Lib.hid hB1
    have HSS := Lib.hid hs
    obtain ⟨hsl1, hsl2⟩ := hsl
    have hsl3 : s ≤ 12672 := by omega
    have hml := mul_le16 hcw.1 hcw.2 hx2 hx3
    obtain ⟨m, hm⟩ : ∃ m, m = q * xr := ⟨_, rfl⟩
    rw [← hm] at hml hsn
    obtain ⟨hml1, hml2⟩ := hml
    obtain ⟨lv, hlv⟩ : ∃ lv, lv = lastR (valR pre) := ⟨_, rfl⟩
    rw [← hlv] at hcL
    clear hlv
    have hwm : IntKind.i64.wrap (q * xr) = m := by rw [← hm]; exact IntWalk.i64_in _ (by omega)
    have hwm2 : IntKind.i64.wrap (s + m) = s + m := IntWalk.i64_in _ (by omega)
    have hd8 : (d.size : Int) ≤ 8 := by have := HOK.out.size; omega
    have KT := Lib.hid (show ¬ KR (g + 1 + 3) b bo (g + 1) by rintro (h | h | h) <;> omega)
    have KL := Lib.hid (show ¬ KR (g + 1 + 3) b bo (g + 1 + 1) by rintro (h | h | h) <;> omega)
    clear bT1 bL1 hB1 hr hs hq hm hcw hsl2
    gi_wp2
    refine region_round (by kernel_rfl) (by kernel_rfl) ?_
    refine wpAnyIn_take (i := 1) (v := ?v1) rfl rfl (by kernel_rfl) (by kernel_rfl) (by kernel_rfl) (fun _ _ _ h => h) ⟨Or.inl ⟨by rfl, ?h1⟩, fun _ => rfl⟩ ?r1
    case h1 => ((intro w; go_simp) <;> with_reducible rfl)
    try simp only [Act.put, List.setIfInBounds_toArray, List.set_cons_zero, List.set_cons_succ]
    refine wpAnyIn_take (i := 3) (v := ?v2) rfl rfl (by kernel_rfl) (by kernel_rfl) (by kernel_rfl) (fun _ _ _ h => h) ⟨Or.inl ⟨by rfl, ?h2⟩, fun _ => rfl⟩ ?r2
    case h2 => ((intro w; go_simp) <;> with_reducible rfl)
    try simp only [Act.put, List.setIfInBounds_toArray, List.set_cons_zero, List.set_cons_succ]
    refine wpAnyIn_take (i := 7) (v := ?v3) rfl rfl (by kernel_rfl) (by kernel_rfl) (by kernel_rfl) (fun _ _ _ h => h) ⟨Or.inl ⟨by rfl, ?h3⟩, fun _ => rfl⟩ ?r3
    case h3 => ((intro w; go_simp) <;> with_reducible rfl)
    try simp only [Act.put, List.setIfInBounds_toArray, List.set_cons_zero, List.set_cons_succ]
    refine wpAnyIn_ready (rs := [0, 2]) (by kernel_rfl) (by simp) (AllReadyIn.cons rfl (fun K hK => ?_) (AllReadyIn.cons rfl (fun K hK => ?_) AllReadyIn.nil))
    · go_simp
      refine hK _ _ ?_
      clear hK K
      refine wpAnyIn_ready (rs := [2]) (by kernel_rfl) (by simp) (AllReadyIn.cons rfl (fun K hK => ?_) AllReadyIn.nil)
      go_simp
      refine hK _ _ ?_
      clear hK K
      refine wpAnyIn_take (i := 4) (v := ?v4) rfl rfl (by kernel_rfl) (by kernel_rfl) (by kernel_rfl) (fun _ _ _ h => h) ⟨Or.inl ⟨by rfl, ?h4⟩, fun _ => rfl⟩ ?r4
      case h4 => ((intro w; go_simp) <;> with_reducible rfl)
      try simp only [Act.put, List.setIfInBounds_toArray, List.set_cons_zero, List.set_cons_succ]
      refine wpAnyIn_take (i := 5) (v := ?v5) rfl rfl (by kernel_rfl) (by kernel_rfl) (by kernel_rfl) (fun _ _ _ h => h) ⟨Or.inl ⟨by rfl, ?h5⟩, fun _ => rfl⟩ ?r5
      case h5 => ((intro w; go_simp) <;> with_reducible rfl)
      try simp only [Act.put, List.setIfInBounds_toArray, List.set_cons_zero, List.set_cons_succ]
      refine wpAnyIn_ready (rs := [6]) (by kernel_rfl) (by simp) (AllReadyIn.cons rfl (fun K hK => ?_) AllReadyIn.nil)
      go_simp
      refine hK _ _ ?_
      clear hK K
      refine wpAnyIn_take (i := 8) (v := ?v6) rfl rfl (by kernel_rfl) (by kernel_rfl) (by kernel_rfl) (fun _ _ _ h => h) ⟨Or.inl ⟨by rfl, ?h6⟩, fun _ => rfl⟩ ?r6
      case h6 => ((intro w; go_simp) <;> with_reducible rfl)
      try simp only [Act.put, List.setIfInBounds_toArray, List.set_cons_zero, List.set_cons_succ]
      refine wpAnyIn_take (i := 9) (v := ?v7) rfl rfl (by kernel_rfl) (by kernel_rfl) (by kernel_rfl) (fun _ _ _ h => h) ⟨Or.inl ⟨by rfl, ?h7⟩, fun _ => rfl⟩ ?r7
      case h7 => ((intro w; go_simp) <;> with_reducible rfl)
      try simp only [Act.put, List.setIfInBounds_toArray, List.set_cons_zero, List.set_cons_succ]
      refine wpAnyIn_ready (rs := [10]) (by kernel_rfl) (by simp) (AllReadyIn.cons rfl (fun K hK => ?_) AllReadyIn.nil)
      go_simp
      refine hK _ _ ?_
      clear hK K
      refine wpAnyIn_done (by kernel_rfl) ?_ _
      gi_wp2
      refine ⟨((KeepsOthers.setCell _ _ _).trans ((KeepsOthers.of_grownBy (row := none) (grown_drew1N (grown_reflN _ none)) (fun j o e _ => by cases e)).trans (KeepsOthers.setCell _ _ _))).from _, ((KpS.set ⟨g + 1, 0, none⟩ _ KT.out).trans (KpS.drew _ _)).trans (KpS.set ⟨g + 1 + 1, 0, none⟩ _ KL.out), ⟨?_, ?_⟩, ((HB1.out.setCell (p := ⟨g + 1, 0, none⟩) (Nat.le_refl _) _).drew).setCell (p := ⟨g + 1 + 1, 0, none⟩) (Nat.le_succ _) _⟩
      · rw [valR_snoc, hsn.out]
        have hq := (BT.out.set (.int .i64 (s + m))).kept (grownBy_setCell' (W.setCell ⟨g + 1, 0, none⟩ (.int .i64 (s + m))) (g + 1 + 1) (.int .i64 xr)) (by simp)
        exact hq
      · rw [valR_snoc, hln.out]
        have hq := (BL.out.kept (grownBy_setCell' W (g + 1) (.int .i64 (s + m))) (by simp)).set (.int .i64 xr)
        exact hq
    · go_simp
      refine hK _ _ ?_
      clear hK K
      refine wpAnyIn_take (i := 4) (v := ?v8) rfl rfl (by kernel_rfl) (by kernel_rfl) (by kernel_rfl) (fun _ _ _ h => h) ⟨Or.inl ⟨by rfl, ?h8⟩, fun _ => rfl⟩ ?r8
      case h8 => ((intro w; go_simp) <;> with_reducible rfl)
      try simp only [Act.put, List.setIfInBounds_toArray, List.set_cons_zero, List.set_cons_succ]
      refine wpAnyIn_take (i := 5) (v := ?v9) rfl rfl (by kernel_rfl) (by kernel_rfl) (by kernel_rfl) (fun _ _ _ h => h) ⟨Or.inl ⟨by rfl, ?h9⟩, fun _ => rfl⟩ ?r9
      case h9 => ((intro w; go_simp) <;> with_reducible rfl)
      try simp only [Act.put, List.setIfInBounds_toArray, List.set_cons_zero, List.set_cons_succ]
      refine wpAnyIn_ready (rs := [0, 6]) (by kernel_rfl) (by simp) (AllReadyIn.cons rfl (fun K hK => ?_) (AllReadyIn.cons rfl (fun K hK => ?_) AllReadyIn.nil))
      · go_simp
        refine hK _ _ ?_
        clear hK K
        refine wpAnyIn_ready (rs := [6]) (by kernel_rfl) (by simp) (AllReadyIn.cons rfl (fun K hK => ?_) AllReadyIn.nil)
        go_simp
        refine hK _ _ ?_
        clear hK K
        refine wpAnyIn_take (i := 8) (v := ?v10) rfl rfl (by kernel_rfl) (by kernel_rfl) (by kernel_rfl) (fun _ _ _ h => h) ⟨Or.inl ⟨by rfl, ?h10⟩, fun _ => rfl⟩ ?r10
        case h10 => ((intro w; go_simp) <;> with_reducible rfl)
        try simp only [Act.put, List.setIfInBounds_toArray, List.set_cons_zero, List.set_cons_succ]
        refine wpAnyIn_take (i := 9) (v := ?v11) rfl rfl (by kernel_rfl) (by kernel_rfl) (by kernel_rfl) (fun _ _ _ h => h) ⟨Or.inl ⟨by rfl, ?h11⟩, fun _ => rfl⟩ ?r11
        case h11 => ((intro w; go_simp) <;> with_reducible rfl)
        try simp only [Act.put, List.setIfInBounds_toArray, List.set_cons_zero, List.set_cons_succ]
        refine wpAnyIn_ready (rs := [10]) (by kernel_rfl) (by simp) (AllReadyIn.cons rfl (fun K hK => ?_) AllReadyIn.nil)
        go_simp
        refine hK _ _ ?_
        clear hK K
        refine wpAnyIn_done (by kernel_rfl) ?_ _
        gi_wp2
        refine ⟨((KeepsOthers.setCell _ _ _).trans ((KeepsOthers.of_grownBy (row := none) (grown_drew1N (grown_reflN _ none)) (fun j o e _ => by cases e)).trans (KeepsOthers.setCell _ _ _))).from _, ((KpS.set ⟨g + 1, 0, none⟩ _ KT.out).trans (KpS.drew _ _)).trans (KpS.set ⟨g + 1 + 1, 0, none⟩ _ KL.out), ⟨?_, ?_⟩, ((HB1.out.setCell (p := ⟨g + 1, 0, none⟩) (Nat.le_refl _) _).drew).setCell (p := ⟨g + 1 + 1, 0, none⟩) (Nat.le_succ _) _⟩
        · rw [valR_snoc, hsn.out]
          have hq := (BT.out.set (.int .i64 (s + m))).kept (grownBy_setCell' (W.setCell ⟨g + 1, 0, none⟩ (.int .i64 (s + m))) (g + 1 + 1) (.int .i64 xr)) (by simp)
          exact hq
        · rw [valR_snoc, hln.out]
          have hq := (BL.out.kept (grownBy_setCell' W (g + 1) (.int .i64 (s + m))) (by simp)).set (.int .i64 xr)
          exact hq
      · go_simp
        refine hK _ _ ?_
        clear hK K
        refine wpAnyIn_take (i := 8) (v := ?v12) rfl rfl (by kernel_rfl) (by kernel_rfl) (by kernel_rfl) (fun _ _ _ h => h) ⟨Or.inl ⟨by rfl, ?h12⟩, fun _ => rfl⟩ ?r12
        case h12 => ((intro w; go_simp) <;> with_reducible rfl)
        try simp only [Act.put, List.setIfInBounds_toArray, List.set_cons_zero, List.set_cons_succ]
        refine wpAnyIn_ready (rs := [0]) (by kernel_rfl) (by simp) (AllReadyIn.cons rfl (fun K hK => ?_) AllReadyIn.nil)
        go_simp
        refine hK _ _ ?_
        clear hK K
        refine wpAnyIn_take (i := 9) (v := ?v13) rfl rfl (by kernel_rfl) (by kernel_rfl) (by kernel_rfl) (fun _ _ _ h => h) ⟨Or.inl ⟨by rfl, ?h13⟩, fun _ => rfl⟩ ?r13
        case h13 => ((intro w; go_simp) <;> with_reducible rfl)
        try simp only [Act.put, List.setIfInBounds_toArray, List.set_cons_zero, List.set_cons_succ]
        refine wpAnyIn_ready (rs := [10]) (by kernel_rfl) (by simp) (AllReadyIn.cons rfl (fun K hK => ?_) AllReadyIn.nil)
        go_simp
        refine hK _ _ ?_
        clear hK K
        refine wpAnyIn_done (by kernel_rfl) ?_ _
        gi_wp2
        refine ⟨((KeepsOthers.setCell _ _ _).trans ((KeepsOthers.of_grownBy (row := none) (grown_drew1N (grown_reflN _ none)) (fun j o e _ => by cases e)).trans (KeepsOthers.setCell _ _ _))).from _, ((KpS.set ⟨g + 1, 0, none⟩ _ KT.out).trans (KpS.drew _ _)).trans (KpS.set ⟨g + 1 + 1, 0, none⟩ _ KL.out), ⟨?_, ?_⟩, ((HB1.out.setCell (p := ⟨g + 1, 0, none⟩) (Nat.le_refl _) _).drew).setCell (p := ⟨g + 1 + 1, 0, none⟩) (Nat.le_succ _) _⟩
        · rw [valR_snoc, hsn.out]
          have hq := (BT.out.set (.int .i64 (s + m))).kept (grownBy_setCell' (W.setCell ⟨g + 1, 0, none⟩ (.int .i64 (s + m))) (g + 1 + 1) (.int .i64 xr)) (by simp)
          exact hq
        · rw [valR_snoc, hln.out]
          have hq := (BL.out.kept (grownBy_setCell' W (g + 1) (.int .i64 (s + m))) (by simp)).set (.int .i64 xr)
          exact hq
  case done =>
    rintro D ys W hD hvs ⟨⟨bT1, bL1⟩, hB1⟩ hK
    have e1 : sumR d (valR ys) = sumF (placeC d o) o.size := by rw [hvs, sumR_reach]
    have e2 : lastR (valR ys) = rsum d o o.size := by rw [hvs, lastR_reach]
    have hrl := rest_le HOK.out HORD.out
    have hsl := sumF_le (by omega) (placeC_le HOK.out HORD.out) o.size (Nat.le_refl _)
    have HTOT := Lib.hid (show costN d rest o = sumF (placeC d o) o.size + rest * rsum d o o.size from rfl)
    rw [e1] at bT1
    rw [e2] at bL1
    obtain ⟨R, hR⟩ : ∃ R, R = rsum d o o.size := ⟨_, rfl⟩
    rw [← hR] at hrl HTOT bL1
    obtain ⟨S, hS⟩ : ∃ S, S = sumF (placeC d o) o.size := ⟨_, rfl⟩
    rw [← hS] at hsl HTOT bT1
    obtain ⟨m, hm⟩ : ∃ m, m = rest * R := ⟨_, rfl⟩
    rw [← hm] at hrl HTOT
    have hcT := bT1.cell
    have hcL := bL1.cell
    have s0 := (hB1.cell (p := ⟨g, 0, none⟩) (by omega : g < g + 1)).trans C0'.out
    have s1 := (hB1.cell (p := ⟨g, 1, none⟩) (by omega : g < g + 1)).trans C1'.out
    have hwm : IntKind.i64.wrap (rest * R) = m := by rw [← hm]; exact IntWalk.i64_in _ (by omega)
    have hwm2 : IntKind.i64.wrap (S + m) = S + m := IntWalk.i64_in _ (by omega)
    have HB1 := Lib.hid hB1
    clear e1 e2 hvs hR hS hm hB1 bT1 bL1
    gi_wp2
    refine ⟨by simp, .inl ⟨_, _, rfl, run_takeDeferred hK, ?_⟩⟩
    refine ⟨_, results_tmp rfl _ _ _, ?_, HA.out.trans ((HB1.out.mono (by omega)).trans (belowK_b (w := W0) (by omega) W D _ _ (by omega) hK rfl rfl))⟩
    exact retIA HTOT.out.symm
  case stop =>
    rintro D c pre W _ _ h _
    exact h.elim

/-! ChainCost -/
set_option maxRecDepth 100000 in
set_option maxHeartbeats 1000000 in
theorem implCost_any (b off cap : Nat) (d : Array CaseD) (rest : Int) (bo co : Nat) (o : Array Int) (w : World) (hR : RowC w b off d) (hE : ErrAt w) (hcap : d.size ≤ cap) (hmax : cap ≤ maxLen) (hO : RowN w bo 0 o) (ho : o.size ≤ 1048576) :
    Calls Tryd.prog 23 #[.agg #[.slice (some ⟨b, off, none⟩) d.size cap, .int .i64 rest], .slice (some ⟨bo, 0, none⟩) o.size co] w fun x w' => x = .returned (.int .i64 (chainN d rest o)) ∧ RowKit.Below w.heap.size w w' := by
  have hv := fun W (hW : RowKit.Below w.heap.size w W) => implOrder_any b off cap d rest bo co o W (hR.below hW) (hE.below hW) hcap hmax (hO.below hW) ho
  have hk := fun W (hW : RowKit.Below w.heap.size w W) h1 h2 => cost_any b off cap d rest bo co o W (hR.below hW) (hO.below hW) h1 h2
  have HK := Lib.hid hk
  obtain ⟨wa, hwa⟩ : ∃ wa, wa = w.alloc (.cells #[.slice (some ⟨b, off, none⟩) d.size cap, .int .i64 rest] 30) := ⟨_, rfl⟩
  have c0 : wa.cell? ⟨w.heap.size, 0, none⟩ = some (.slice (some ⟨b, off, none⟩) d.size cap) := by rw [hwa]; simp
  have c1 : wa.cell? ⟨w.heap.size, 1, none⟩ = some (.int .i64 rest) := by rw [hwa]; simp
  have hz : w.heap.size < wa.heap.size := by rw [hwa]; simp
  have hba : RowKit.Below w.heap.size w wa := by rw [hwa]; exact (Below.refl _ _).alloc (Nat.le_refl _) _
  have HA := Lib.hid hba
  have C0 := Lib.hid c0
  have C1 := Lib.hid c1
  have HWA := Lib.hid hwa
  clear hba c0 c1 hwa hR hE hO hk
  cases hs : ordS d rest o
  all_goals
    simp only [hs] at hv
    have HV := Lib.hid hv
    have HS := Lib.hid hs
    clear hv hs
    go_enter Tryd.func23, Tryd.ntmps23
    go_wp2_with fail
    rw [← HWA.out]
    refine (HV.out _ HA.out).mono ?_
    rintro x w1 ⟨rfl, hb⟩
    have HB := Lib.hid hb
    have hz1 := hb.size
    have a0 := (hb.cell (p := ⟨w.heap.size, 0, none⟩) hz).trans C0.out
    have a1 := (hb.cell (p := ⟨w.heap.size, 1, none⟩) hz).trans C1.out
    have HWB := Lib.hid (HA.out.trans (HB.out.mono (by omega)))
    clear hb
    go_wp2_with fail
  · go_ret
    exact ⟨retIA (chainN_off HS.out).symm, HWB.out⟩
  · obtain ⟨hok, hord⟩ := ordS_on HS.out
    refine (HK.out _ HWB.out hok hord).mono ?_
    rintro x w2 ⟨rfl, hb2⟩
    have HB2 := Lib.hid (HWB.out.trans (hb2.mono HWB.out.size))
    clear hb2
    go_wp2
    go_ret
    exact ⟨retIA (chainN_on HS.out).symm, HB2.out⟩
end Go.Proofs.YthchhgjnelkmhaaDoor
