
/- mergeNeighbours over an iterator of cases that promises all of them. -/
import Derived.Test.YtjmfcnblkojejaaDoorKsCollect
import Derived.Test.YtjmfcnblkojejaaDoorKsJoin
import Derived.Test.YtjmfcnblkojejaaDoorKsSegP
import Derived.Test.YtjmfcnblkojejaaDoorKsRounds
import Derived.Sort.CutIn
namespace Go.Proofs.YtjmfcnblkojejaaDoor
open Go.RowKit Go.Shelf Go.Lib Go.Sort

attribute [local go_sem] Oper.semAt_some

abbrev mL (j : CaseD → CaseD → Bool) (pre : List SegD) : List CaseD := (mergeA j (vals pre)).toList

theorem row_slice {W : World} {base : Nat} {e : TypeId} {size k : Nat} {v : Value} {xs : List Value} (h : W.ownsRow base e size v k xs) : ∃ a cap, v = .slice a k cap := by
  rcases h.2 with ⟨rfl, rfl⟩ | ⟨g, cap, cur, rfl, _⟩
  · exact ⟨_, _, rfl⟩
  · exact ⟨_, _, rfl⟩
abbrev jF (jf : FuncId) : Value := .func (.func jf) #[] #[]
abbrev mW (jf : FuncId) (w : World) : World := (w.alloc (.cells #[jF jf] 76)).alloc (.cells #[.slice none 0 0] 23)

theorem Box4.put {W : World} {B : Nat} {a0 a1 a2 a3 : Value} {r : Nat} (h : W.heap[B]? = some (.cells #[a0, a1, a2, a3] 35 (0, 0))) (hr : r < 4) (v : Value) : (W.setCell ⟨B, r, none⟩ v).heap[B]? = some (.cells (#[a0, a1, a2, a3].setIfInBounds r v) 35 (0, 0)) := by
  obtain ⟨hlt, hk⟩ := Array.getElem?_eq_some_iff.1 h
  show (W.heap.modify B _)[B]? = _
  rw [Array.getElem?_eq_getElem (by rw [Array.size_modify]; exact hlt), Array.getElem_modify_self, hk]
  simp
theorem Box4.store {W : World} {B : Nat} {z : CaseD} (h : Box4 W B z) (o : CaseD) : Box4 ((((W.setCell ⟨B, 0, none⟩ (.int .i64 o.low)).setCell ⟨B, 1, none⟩ (.int .i64 o.high)).setCell ⟨B, 2, none⟩ (.string o.target)).setCell ⟨B, 3, none⟩ (.int .i64 o.weight)) B o :=
  Box4.put (Box4.put (Box4.put (Box4.put h (by decide) _) (by decide) _) (by decide) _) (by decide) _
theorem KpX.setRow {X j : Nat} {W W' : World} (hg : W.grownBy W' (some j)) (hX : X < W.heap.size) (hne : X ≠ j) (hp : Pts W X j) : KpX X W W' := by
  have hx : W'.heap[X]? = W.heap[X]? := hg.block X hX (by simpa using hne)
  refine ⟨hg.size, fun i o hi _ _ hpi => (hg.block i (Array.getElem?_eq_some_iff.1 hi).1 (by intro e; cases e; exact hpi hp)).trans hi, fun k hk => .inl ((Pts.of_heap hx).1 hk), fun hl k hk => Nat.lt_of_lt_of_le (hl k ((Pts.of_heap hx).1 hk)) hg.size⟩
theorem flatL_set : ∀ (l : List CaseD) (n : Nat) (o : CaseD), n < l.length → flatL (l.set n o) = ((((flatL l).set (n * 4) (.int .i64 o.low)).set (n * 4 + 1) (.int .i64 o.high)).set (n * 4 + 2) (.string o.target)).set (n * 4 + 3) (.int .i64 o.weight)
  | [], n, o, h => by simp at h
  | c :: l, 0, o, h => by simp [flatL, encC]
  | c :: l, n + 1, o, h => by
    have ih := flatL_set l n o (by simpa using h)
    have e : (n + 1) * 4 = n * 4 + 1 + 1 + 1 + 1 := by omega
    rw [List.set_cons_succ]
    show flatL (c :: l.set n o) = _
    simp only [flatL, List.flatMap_cons] at ih ⊢
    rw [ih, e]
    simp [encC, Nat.add_right_comm _ 1, Nat.add_assoc]
/-- What a join is. -/
def JoinFn (j : CaseD → CaseD → Bool) (jf : FuncId) : Prop := (∀ args w, (callFunc jf args).run Tryd.prog w = .ok (.enter jf args) w) ∧ ∀ l x w, Bnd 32 l → okB x = true →
  Calls Tryd.prog jf #[.agg #[.int .i64 l.low, .int .i64 l.high, .string l.target, .int .i64 l.weight], .agg #[.int .i64 x.low, .int .i64 x.high, .string x.target, .int .i64 x.weight]] w (JoinPost j l x w)
theorem Only.intro {Q : Exit → Act → World → Prop} {a : Act} {w : World} (h : Q .normal a w) : Only Q .normal a w := h
set_option maxRecDepth 100000 in
set_option maxHeartbeats 0 in
theorem merge_any (j : CaseD → CaseD → Bool) (jf : FuncId) (hjf : JoinFn j jf) (gf : Nat) (lb : Array Value) (L : List CaseD) (w : World) (eg : ∀ args w, (callFunc gf args).run Tryd.prog w = .ok (.enter gf args) w) {N : Nat} (hN : N ≤ 32)
    (hseq : SeqStopsK Fence.wide 4 Tryd.prog gf lb encCase (KpX (w.heap.size + 1)) (fun ys => vals ys = L) (fun _ => True) N (mW jf w)) :
    Calls Tryd.prog 59 #[.func (.func gf) #[] lb, jF jf] w fun x w' => ∃ v, x = .returned v ∧ OwnsC w.heap.size v (mergeA j L).toList w' ∧ RowKit.Below w.heap.size w w' := by
  have HSEQ := Lib.hid hseq
  obtain ⟨i0, hi, hi0, hi1, hi2⟩ := info_parts infoC
  clear hseq
  refine (callsIn_wide (n := 5)).1 ?_
  refine callsIn_of_wp_marks Tryd.func59 rfl trivial ?_ rfl
  simp only [Tryd.ntmps59, List.size_toArray, List.length_cons, List.length_nil, Nat.reduceAdd, Nat.reduceSub, Array.replicate_succ, Array.replicate_zero, List.push_toArray, List.append_toArray, List.nil_append, List.cons_append]
  gi_wp2
  have bJ := (Boxed.new w 76 (jF jf)).alloc (.cells #[.slice none 0 0] 23)
  have bX := Boxed.new (w.alloc (.cells #[jF jf] 76)) 23 (.slice none 0 0)
  have hB0 : RowKit.Below w.heap.size w (mW jf w) := ((Below.refl _ w).alloc (Nat.le_refl _) _).alloc (by simp) _
  have hsz : (mW jf w).heap.size = w.heap.size + 2 := by simp
  rw [show (w.alloc (.cells #[jF jf] 76)).heap.size = w.heap.size + 1 by simp] at bX
  obtain ⟨W0, hW0⟩ : ∃ W0, W0 = mW jf w := ⟨_, rfl⟩
  rw [show (w.alloc (.cells #[jF jf] 76)).alloc (.cells #[.slice none 0 0] 23) = W0 from hW0.symm] at bJ bX ⊢
  rw [← hW0] at HSEQ hB0 hsz
  clear hW0
  have hx0 : w.heap.size + 1 < W0.heap.size := by omega
  have hnz : 23 ≠ 35 := tSl
  refine wpIn_rangeFunc_ownH rfl (by decide) (gf := gf) (lb := lb) rfl trivial eg
    HSEQ.out KpX.trans (kpX_b hx0) (Below.refl _ _) (fun _ => rfl)
    (fun pre W => ((∃ v, Boxed W (w.heap.size + 1) 23 v ∧ W.ownsRow (w.heap.size + 1) 35 4 v (mL j pre).length (flatL (mL j pre)) ∧ True) ∧ Boxed W w.heap.size 76 (jF jf)) ∧ RowKit.Below w.heap.size w W)
    (fun _ _ _ => False)
    (OwnFrom.and (OwnFrom.and (Own.from (holdsRow_own (w.heap.size + 1) (w.heap.size + 1) 23 35 4 (fun pre => (mL j pre).length) (fun pre => flatL (mL j pre)) (fun _ _ => True)) _) (Own.from (boxed_own w.heap.size 76 (fun _ => jF jf)) _)) (ownFrom_below (Nat.le_refl _) (by omega)))
    (fun _ _ _ _ _ hs _ _ => hs)
    ⟨⟨⟨_, bX, World.ownsRow_nil _ _ _ _, trivial⟩, bJ⟩, hB0⟩
    (fun x a' W => ∃ Bx, w.heap.size + 1 < Bx ∧ Box4 W Bx x.1 ∧ ∃ u7 u8 u9, a' = { tmps := #[.func (.func gf) #[] lb, jF jf, undef, .pointer (some ⟨w.heap.size, 0, none⟩), .slice none 0 0, .pointer (some ⟨w.heap.size + 1, 0, none⟩), .pointer (some ⟨Bx, 0, none⟩), u7, u8, u9, .func (.func gf) #[] lb, .agg #[.int .i64 x.1.low, .int .i64 x.1.high, .string x.1.target, .int .i64 x.1.weight], undef, undef, undef, undef, undef, undef, undef, undef, undef, undef, undef, undef, undef, undef, undef, undef, undef, undef, undef, undef, undef, undef, undef, undef, undef], defers := [] })
    (fun x a' _ X Y row hs hg hr => by obtain ⟨Bx, h1, h2, h3⟩ := hs; exact ⟨Bx, h1, box4_own Bx x.1 () X Y row h2 hg (fun r e => (hr r e).2), h3⟩)
    ?assign ?body ?done ?stop
  case assign =>
    rintro l pre x W K ⟨⟨⟨v, bX1, hrow, _⟩, bJ1⟩, hB1⟩ hK
    gi_wp2
    exact hK _ _ ((KeepsOthers.alloc _ _).from _) (KpX.alloc bX1.lt _) ⟨⟨⟨v, bX1.alloc _, hrow.alloc _, trivial⟩, bJ1.alloc _⟩, hB1.alloc hB1.size _⟩ ⟨W.heap.size, bX1.lt, Box4.new W x.1, _, _, _, rfl⟩
  case body =>
    rintro l pre x a' W hl ⟨r, hr⟩ ⟨⟨⟨v, hv, hrow, _⟩, hJ⟩, hB⟩ ⟨Bx, hBx, b4, u7, u8, u9, rfl⟩ hlt
    have hmx : Tryd.prog.follows .mixedOrders = true := by kernel_rfl
    have hc := hv.cell
    have hcJ := hJ.cell
    obtain ⟨d0, d1, d2, d3⟩ := b4.cells
    have hBxl := b4.lt
    have hsB := hB.size
    have hbd := mergeA_bnd (j := j) (vals_ok pre)
    have hvl : (vals pre).length ≤ 32 := by simp [vals]; omega
    obtain ⟨m, hm⟩ : ∃ m, m = mergeA j (vals pre) := ⟨_, rfl⟩
    have hsn := mergeA_snoc j (vals pre) x.1
    rw [← vals_snoc] at hsn
    rw [← hm] at hbd hsn
    rw [show mL j pre = m.toList by rw [hm]] at hrow
    have HBD := Lib.hid hbd
    have HSN := Lib.hid hsn
    have hms : m.size ≤ 32 := by have := hbd.1; omega
    clear hbd hsn hm
    cases hm0 : m.size with
    | zero =>
      obtain ⟨av, cv, rfl⟩ := row_slice hrow
      have hlen : m.toList.length = 0 := by simpa using hm0
      rw [hlen] at hc hv hrow
      gi_wp2_with (gi_at_builtin; refine wpListIn_append_at _ rfl _ _ 23 rfl (w.heap.size + 1) 35 i0 zeroC 4 40 Tryd.underlying23 hi hi0 hi1 hi2 rfl (by decide) _ _ _ rfl (hrow.alloc _) ⟨W.heap.size, 0, none⟩ 1 1 (encC x.1) rfl rfl (cells_at rfl) (encC_one _) (by unfold maxLen; omega) (by omega) (by have := hv.lt; simp; omega) (by decide) ?_; intro v' w1 hown' hgrow hat; have HAT := Lib.hid hat; clear hat; obtain ⟨g', cap', rfl⟩ := ownsRow_succ hown'; obtain ⟨hv1, hv2, hr2, hk2, hb2⟩ := hv.appended tSl hrow (Nat.le_of_lt hv.lt) (Nat.le_refl _) hown' hgrow; have HKP := Lib.hid (KpX.appended hv tSl hrow hown' hgrow HAT.out); have hc1 := hv1.cell; have hf1 := hv1.frozen)
      refine ⟨hk2.from _, HKP.out, ⟨⟨_, hv2, ?_, trivial⟩, (hb2.block w.heap.size (Nat.lt_succ_self _)).trans hJ⟩, hB.trans (hb2.mono (Nat.le_succ _))⟩
      rw [mL, HSN.out, mstep_first j x.1 hm0, Array.toList_push, ← flatL_snoc, List.length_append, hlen]
      simpa using hr2
    | succ n =>
      have hne : n < m.size := by omega
      have hlen : m.toList.length = n + 1 := by simpa using hm0
      obtain ⟨g, cap, rfl⟩ : ∃ g cap, v = .slice (some ⟨g, 0, none⟩) (n + 1) cap := by
        rw [hlen] at hrow
        obtain ⟨g, cap, h⟩ := ownsRow_succ hrow
        exact ⟨g, cap, h⟩
      rw [hlen] at hrow
      have hlt4 : n < m.toList.length := by omega
      have hcl := hrow
      obtain ⟨lc, hlc⟩ : ∃ lc, lc = m[n]! := ⟨_, rfl⟩
      have hgt : m.toList[n] = lc := by rw [hlc, getElem!_pos m n hne]; simp
      have hgl : g < W.heap.size := (hrow.lt g rfl).2
      have hgX : w.heap.size + 1 ≤ g := (hrow.lt g rfl).1
      have hcell : ∀ r (hr : r < 4), W.cell? ⟨g, n * 4 + r, none⟩ = (encC lc)[r]? := fun r hr => by
        have := World.ownsRow.cellAt hrow (n * 4 + r) (by omega)
        rw [this, flatL_get m.toList n r hr, List.getElem?_eq_getElem hlt4]
        simp only [Option.bind_some]
        rw [hgt]
      have e0 : W.cell? ⟨g, n * 4, none⟩ = some (.int .i64 lc.low) := hcell 0 (by omega)
      have e1 : W.cell? ⟨g, n * 4 + 1, none⟩ = some (.int .i64 lc.high) := hcell 1 (by omega)
      have e2 : W.cell? ⟨g, n * 4 + 2, none⟩ = some (.string lc.target) := hcell 2 (by omega)
      have e3 : W.cell? ⟨g, n * 4 + 3, none⟩ = some (.int .i64 lc.weight) := hcell 3 (by omega)
      have hbn : Bnd 32 lc := by rw [hlc]; exact (HBD.out.2 n hne).mono hvl
      have HJN := Lib.hid (fun W => hjf.2 lc x.1 W hbn x.2)
      clear hcell hcl hgt
      have HRW := Lib.hid hrow
      clear hrow
      gi_upto_region 6 with fail
      gi_cut [8, 9] from 17 (fun v8 v9 w' => ∃ B8 o, v8 = .pointer (some ⟨B8, 0, none⟩) ∧ v9 = .bool (j lc x.1) ∧ Box4 w' B8 o ∧ (j lc x.1 = true → o = oneC lc x.1) ∧ RowKit.Below W.heap.size W w' ∧ W.heap.size ≤ B8)
      case first =>
        have hXl := hv.lt
        have hJl := hJ.lt
        have ej := hjf.1
        have hnN : (0 : Int) ≤ (n : Int) := by omega
        have hnN1 : (n : Int) < (n : Int) + 1 := by omega
        clear HSEQ HRW HSN HBD bX bJ hx0 hsz hB0 hv hJ hB hlt hvl hms hlc hlen hne hm0 hr b4 hnz hsB hi hi0 hi1 hi2 eg
        refine region_roundH (fun w' => RowKit.Below W.heap.size W w') (by kernel_rfl) (by kernel_rfl) (RowKit.Below.refl _ W).drew (fun hHeld => ?_)
        refine wpAnyH_take (i := 0) (v := ?v0) rfl (by kernel_rfl) (by kernel_rfl) (by kernel_rfl) (fun _ _ _ h => h) (Or.inl ⟨by rfl, ?h0⟩) hHeld ?r0
        case h0 => ((intro w' hSw; have yhcJ := (RowKit.Below.cell hSw (p := ⟨w.heap.size, 0, none⟩) hJl).trans hcJ; go_simp) <;> with_reducible rfl)
        try simp only [Act.put, List.setIfInBounds_toArray, List.set_cons_zero, List.set_cons_succ]
        refine wpAnyH_take (i := 1) (v := ?v1) rfl (by kernel_rfl) (by kernel_rfl) (by kernel_rfl) (fun _ _ _ h => h) (Or.inl ⟨by rfl, ?h1⟩) hHeld ?r1
        case h1 => ((intro w' hSw; have yhc := (RowKit.Below.cell hSw (p := ⟨w.heap.size + 1, 0, none⟩) hXl).trans hc; go_simp) <;> with_reducible rfl)
        try simp only [Act.put, List.setIfInBounds_toArray, List.set_cons_zero, List.set_cons_succ]
        refine wpAnyH_take (i := 2) (v := ?v2) rfl (by kernel_rfl) (by kernel_rfl) (by kernel_rfl) (fun _ _ _ h => h) (Or.inl ⟨by rfl, ?h2⟩) hHeld ?r2
        case h2 => ((intro w' hSw; go_simp) <;> with_reducible rfl)
        try simp only [Act.put, List.setIfInBounds_toArray, List.set_cons_zero, List.set_cons_succ]
        refine wpAnyH_take (i := 3) (v := ?v3) rfl (by kernel_rfl) (by kernel_rfl) (by kernel_rfl) (fun _ _ _ h => h) (Or.inl ⟨by rfl, ?h3⟩) hHeld ?r3
        case h3 => ((intro w' hSw; go_simp) <;> with_reducible rfl)
        try simp only [Act.put, List.setIfInBounds_toArray, List.set_cons_zero, List.set_cons_succ]
        refine wpAnyH_take (i := 4) (v := ?v4) rfl (by kernel_rfl) (by kernel_rfl) (by kernel_rfl) (fun _ _ _ h => h) (Or.inl ⟨by rfl, ?h4⟩) hHeld ?r4
        case h4 => ((intro w' hSw; have ye0 := (RowKit.Below.cell hSw (p := ⟨g, n * 4, none⟩) hgl).trans e0; have ye1 := (RowKit.Below.cell hSw (p := ⟨g, n * 4 + 1, none⟩) hgl).trans e1; have ye2 := (RowKit.Below.cell hSw (p := ⟨g, n * 4 + 2, none⟩) hgl).trans e2; have ye3 := (RowKit.Below.cell hSw (p := ⟨g, n * 4 + 3, none⟩) hgl).trans e3; go_simp) <;> with_reducible rfl)
        try simp only [Act.put, List.setIfInBounds_toArray, List.set_cons_zero, List.set_cons_succ]
        refine wpAnyH_take (i := 5) (v := ?v5) rfl (by kernel_rfl) (by kernel_rfl) (by kernel_rfl) (fun _ _ _ h => h) (Or.inl ⟨by rfl, ?h5⟩) hHeld ?r5
        case h5 => ((intro w' hSw; have yd0 := (RowKit.Below.cell hSw (p := ⟨Bx, 0, none⟩) hBxl).trans d0; have yd1 := (RowKit.Below.cell hSw (p := ⟨Bx, 1, none⟩) hBxl).trans d1; have yd2 := (RowKit.Below.cell hSw (p := ⟨Bx, 2, none⟩) hBxl).trans d2; have yd3 := (RowKit.Below.cell hSw (p := ⟨Bx, 3, none⟩) hBxl).trans d3; go_simp) <;> with_reducible rfl)
        try simp only [Act.put, List.setIfInBounds_toArray, List.set_cons_zero, List.set_cons_succ]
        refine wpAnyH_ready (rs := [6, 10]) (by kernel_rfl) (by simp) (AllReadyH.cons rfl (fun K hK => ?_) (AllReadyH.cons rfl (fun K hK => ?_) AllReadyH.nil))
        · go_simp
          refine (HJN.out _).mono ?_
          rintro e w2 ⟨o, rfl, ho, hb2⟩
          have hB2 := Lib.hid ((RowKit.Below.refl W.heap.size W).drew.trans hb2)
          have HO := Lib.hid ho
          clear ho hb2
          refine hK.out _ _ (hB2.out) (fun hHeld => ?_)
          clear hK K
          try simp only [Act.put, List.setIfInBounds_toArray, List.set_cons_zero, List.set_cons_succ]
          refine wpAnyH_take (i := 7) (v := ?va7) rfl (by kernel_rfl) (by kernel_rfl) (by kernel_rfl) (fun _ _ _ h => h) (Or.inl ⟨by rfl, ?ha7⟩) hHeld ?ra7
          case ha7 => ((intro w' hSw; go_simp) <;> with_reducible rfl)
          try simp only [Act.put, List.setIfInBounds_toArray, List.set_cons_zero, List.set_cons_succ]
          refine wpAnyH_take (i := 8) (v := ?va8) rfl (by kernel_rfl) (by kernel_rfl) (by kernel_rfl) (fun _ _ _ h => h) (Or.inl ⟨by rfl, ?ha8⟩) hHeld ?ra8
          case ha8 => ((intro w' hSw; go_simp) <;> with_reducible rfl)
          try simp only [Act.put, List.setIfInBounds_toArray, List.set_cons_zero, List.set_cons_succ]
          refine wpAnyH_take (i := 9) (v := ?va9) rfl (by kernel_rfl) (by kernel_rfl) (by kernel_rfl) (fun _ _ _ h => h) (Or.inl ⟨by rfl, ?ha9⟩) hHeld ?ra9
          case ha9 => ((intro w' hSw; go_simp) <;> with_reducible rfl)
          try simp only [Act.put, List.setIfInBounds_toArray, List.set_cons_zero, List.set_cons_succ]
          refine wpAnyH_ready (rs := [10]) (by kernel_rfl) (by simp) (AllReadyH.cons rfl (fun K hK => ?_) AllReadyH.nil)
          go_simp
          refine hK.out _ _ (hB2.out.alloc hB2.out.size _) (fun hHeld => ?_)
          clear hK K
          try simp only [Act.put, List.setIfInBounds_toArray, List.set_cons_zero, List.set_cons_succ]
          refine wpAnyH_ready (rs := [11]) (by kernel_rfl) (by simp) (AllReadyH.cons rfl (fun K hK => ?_) AllReadyH.nil)
          go_simp
          refine hK.out _ _ (hB2.out.alloc hB2.out.size _) (fun hHeld => ?_)
          clear hK K
          try simp only [Act.put, List.setIfInBounds_toArray, List.set_cons_zero, List.set_cons_succ]
          refine wpAnyH_ready (rs := [12]) (by kernel_rfl) (by simp) (AllReadyH.cons rfl (fun K hK => ?_) AllReadyH.nil)
          go_simp
          refine hK.out _ _ hHeld (fun hHeld => ?_)
          clear hK K
          try simp only [Act.put, List.setIfInBounds_toArray, List.set_cons_zero, List.set_cons_succ]
          refine wpAnyH_done (by kernel_rfl) ?_ _
          refine Only.intro ?_
          gi_wp2_with fail
          gi_meet
          exact ⟨_, o, rfl, rfl, Box4.new w2 o, HO.out, hHeld, hB2.out.size⟩
        · refine hK.out _ _ ((RowKit.Below.refl W.heap.size W).drew.alloc (Nat.le_refl _) _) (fun hHeld => ?_)
          clear hK K
          try simp only [Act.put, List.setIfInBounds_toArray, List.set_cons_zero, List.set_cons_succ]
          refine wpAnyH_ready (rs := [6]) (by kernel_rfl) (by simp) (AllReadyH.cons rfl (fun K hK => ?_) AllReadyH.nil)
          go_simp
          refine (HJN.out _).mono ?_
          rintro e w2 ⟨o, rfl, ho, hb2⟩
          have hB2 := Lib.hid (((RowKit.Below.refl W.heap.size W).drew.alloc (Nat.le_refl _) _).trans (hb2.mono (by simp)))
          have HO := Lib.hid ho
          have bb : Box4 w2 W.heap.size zeroD := (hb2.block _ (by simp)).trans (Box4.new W.drew zeroD)
          obtain ⟨z0, z1, z2, z3⟩ := bb.cells
          have y0 := Box4.cold bb 0
          have y1 := Box4.cold bb 1
          have y2 := Box4.cold bb 2
          have y3 := Box4.cold bb 3
          have BB := Lib.hid bb
          clear ho hb2 bb
          refine hK.out _ _ (hB2.out) (fun hHeld => ?_)
          clear hK K
          try simp only [Act.put, List.setIfInBounds_toArray, List.set_cons_zero, List.set_cons_succ]
          refine wpAnyH_take (i := 7) (v := ?vb7) rfl (by kernel_rfl) (by kernel_rfl) (by kernel_rfl) (fun _ _ _ h => h) (Or.inl ⟨by rfl, ?hb7⟩) hHeld ?rb7
          case hb7 => ((intro w' hSw; go_simp) <;> with_reducible rfl)
          try simp only [Act.put, List.setIfInBounds_toArray, List.set_cons_zero, List.set_cons_succ]
          refine wpAnyH_take (i := 8) (v := ?vb8) rfl (by kernel_rfl) (by kernel_rfl) (by kernel_rfl) (fun _ _ _ h => h) (Or.inl ⟨by rfl, ?hb8⟩) hHeld ?rb8
          case hb8 => ((intro w' hSw; go_simp) <;> with_reducible rfl)
          try simp only [Act.put, List.setIfInBounds_toArray, List.set_cons_zero, List.set_cons_succ]
          refine wpAnyH_take (i := 9) (v := ?vb9) rfl (by kernel_rfl) (by kernel_rfl) (by kernel_rfl) (fun _ _ _ h => h) (Or.inl ⟨by rfl, ?hb9⟩) hHeld ?rb9
          case hb9 => ((intro w' hSw; go_simp) <;> with_reducible rfl)
          try simp only [Act.put, List.setIfInBounds_toArray, List.set_cons_zero, List.set_cons_succ]
          refine wpAnyH_ready (rs := [11]) (by kernel_rfl) (by simp) (AllReadyH.cons rfl (fun K hK => ?_) AllReadyH.nil)
          go_simp
          refine hK.out _ _ ((((hB2.out.setCell (p := ⟨W.heap.size, 0, none⟩) (Nat.le_refl _) _).setCell (p := ⟨W.heap.size, 1, none⟩) (Nat.le_refl _) _).setCell (p := ⟨W.heap.size, 2, none⟩) (Nat.le_refl _) _).setCell (p := ⟨W.heap.size, 3, none⟩) (Nat.le_refl _) _) (fun hHeld => ?_)
          clear hK K
          try simp only [Act.put, List.setIfInBounds_toArray, List.set_cons_zero, List.set_cons_succ]
          refine wpAnyH_ready (rs := [12]) (by kernel_rfl) (by simp) (AllReadyH.cons rfl (fun K hK => ?_) AllReadyH.nil)
          go_simp
          refine hK.out _ _ hHeld (fun hHeld => ?_)
          clear hK K
          try simp only [Act.put, List.setIfInBounds_toArray, List.set_cons_zero, List.set_cons_succ]
          refine wpAnyH_done (by kernel_rfl) ?_ _
          refine Only.intro ?_
          gi_wp2_with fail
          gi_meet
          exact ⟨_, o, rfl, rfl, BB.out.store o, HO.out, hHeld, Nat.le_refl _⟩
      case rest =>
        obtain ⟨B8, o, rfl, rfl, hB8, ho, hbw, hB8l⟩ := hcut
        have hgw := grown_of_below hbw
        have hXl := hv.lt
        have hJl := hJ.lt
        have hvw := hv.kept hgw (by simp)
        have hJw := hJ.kept hgw (by simp)
        have hroww := HRW.out.kept hgw (by simp [Value.ownBlock])
        have hBw := hB.trans (hbw.mono hB.size)
        have hcw := hvw.cell
        have q0 := (RowKit.Below.cell hbw (p := ⟨Bx, 0, none⟩) hBxl).trans d0
        have q1 := (RowKit.Below.cell hbw (p := ⟨Bx, 1, none⟩) hBxl).trans d1
        have q2 := (RowKit.Below.cell hbw (p := ⟨Bx, 2, none⟩) hBxl).trans d2
        have q3 := (RowKit.Below.cell hbw (p := ⟨Bx, 3, none⟩) hBxl).trans d3
        obtain ⟨z0, z1, z2, z3⟩ := hB8.cells
        have HKO := Lib.hid (KeepsOthers.of_grownBy hgw (fun j o e _ => by cases e))
        have HKX := Lib.hid (KpX.of_grown hXl hgw)
        have hXw := hvw.lt
        cases hjb : j lc x.1
        · clear hB8 ho z0 z1 z2 z3 hv
          gi_wp2_with (gi_at_builtin; refine wpListIn_append_at _ rfl _ _ 23 rfl (w.heap.size + 1) 35 i0 zeroC 4 40 Tryd.underlying23 hi hi0 hi1 hi2 rfl (by decide) _ _ _ rfl (hroww.alloc _) ⟨wc.heap.size, 0, none⟩ 1 1 (encC x.1) rfl rfl (cells_at rfl) (encC_one _) (by unfold maxLen; omega) (by omega) (by simp; omega) (by decide) ?_; intro v' w1 hown' hgrow hat; have HAT := Lib.hid hat; clear hat; obtain ⟨g', cap', rfl⟩ := ownsRow_succ hown'; obtain ⟨hv1, hv2, hr2, hk2, hb2⟩ := hvw.appended tSl hroww (Nat.le_of_lt hXw) (Nat.le_refl _) hown' hgrow; have HKP := Lib.hid (KpX.appended hvw tSl hroww hown' hgrow HAT.out); have hc1 := hv1.cell; have hf1 := hv1.frozen)
          refine ⟨(HKO.out.trans hk2).from _, HKX.out.trans HKP.out, ⟨⟨_, hv2, ?_, trivial⟩, (hb2.block w.heap.size (Nat.lt_succ_self _)).trans hJw⟩, hBw.trans (hb2.mono (Nat.le_succ _))⟩
          rw [mL, HSN.out, mstep_push hm0 (by rw [← hlc]; exact hjb), Array.toList_push, ← flatL_snoc, List.length_append, hlen]
          simpa using hr2
        · have he := ho hjb
          subst he
          have hp : Pts wc (w.heap.size + 1) g := ⟨_, hcw, rfl⟩
          have hgX2 : w.heap.size + 1 ≠ g := by
            have := hv.not_row hnz HRW.out
            intro e
            exact this (by rw [e]; rfl)
          have y0 := World.ownsRow.cellAt hroww (n * 4) (by omega)
          have y1 := World.ownsRow.cellAt hroww (n * 4 + 1) (by omega)
          have y2 := World.ownsRow.cellAt hroww (n * 4 + 2) (by omega)
          have y3 := World.ownsRow.cellAt hroww (n * 4 + 3) (by omega)
          have e0w := (RowKit.Below.cell hbw (p := ⟨g, n * 4, none⟩) hgl).trans e0
          have e1w := (RowKit.Below.cell hbw (p := ⟨g, n * 4 + 1, none⟩) hgl).trans e1
          have e2w := (RowKit.Below.cell hbw (p := ⟨g, n * 4 + 2, none⟩) hgl).trans e2
          have e3w := (RowKit.Below.cell hbw (p := ⟨g, n * 4 + 3, none⟩) hgl).trans e3
          have f0 := World.ownsRow.frozenAt hroww (n * 4)
          have f1 := World.ownsRow.frozenAt hroww (n * 4 + 1)
          have f2 := World.ownsRow.frozenAt hroww (n * 4 + 2)
          have f3 := World.ownsRow.frozenAt hroww (n * 4 + 3)
          have hnN : (0 : Int) ≤ (n : Int) := by omega
          have hnN1 : (n : Int) < (n : Int) + 1 := by omega
          have S1 := Lib.hid (World.ownsRow.stored hroww (n * 4) (.int .i64 (oneC lc x.1).low))
          have S2 := Lib.hid (World.ownsRow.stored S1.out.1 (n * 4 + 1) (.int .i64 (oneC lc x.1).high))
          have S3 := Lib.hid (World.ownsRow.stored S2.out.1 (n * 4 + 2) (.string (oneC lc x.1).target))
          have S4 := Lib.hid (World.ownsRow.stored S3.out.1 (n * 4 + 3) (.int .i64 (oneC lc x.1).weight))
          have nX : some (w.heap.size + 1) ≠ some g := by simpa using hgX2
          have nJ : some w.heap.size ≠ some g := by simp; omega
          have V1 := Lib.hid (hvw.kept S1.out.2 nX)
          have V2 := Lib.hid (V1.out.kept S2.out.2 nX)
          have V3 := Lib.hid (V2.out.kept S3.out.2 nX)
          have V4 := Lib.hid (V3.out.kept S4.out.2 nX)
          have J4 := Lib.hid ((((hJw.kept S1.out.2 nJ).kept S2.out.2 nJ).kept S3.out.2 nJ).kept S4.out.2 nJ)
          have K4 := Lib.hid ((((KpX.setRow S1.out.2 hXw hgX2 hp).trans (KpX.setRow S2.out.2 V1.out.lt hgX2 ⟨_, V1.out.cell, rfl⟩)).trans (KpX.setRow S3.out.2 V2.out.lt hgX2 ⟨_, V2.out.cell, rfl⟩)).trans (KpX.setRow S4.out.2 V3.out.lt hgX2 ⟨_, V3.out.cell, rfl⟩))
          have hfl := flatL_set m.toList n (oneC lc x.1) hlt4
          have HFL := Lib.hid hfl
          have HMS := Lib.hid (show mstep j m x.1 = m.setIfInBounds n (oneC lc x.1) by rw [mstep_join hm0 (by rw [← hlc]; exact hjb), ← hlc])
          obtain ⟨o, hoo⟩ : ∃ o, o = oneC lc x.1 := ⟨_, rfl⟩
          rw [← hoo] at z0 z1 z2 z3 S4 V4 J4 K4 HFL HMS
          have hg0 : w.heap.size ≤ g := by omega
          clear y0 y1 y2 y3 hB8 ho hv S1 S2 S3 V1 V2 V3 nX nJ hp hfl hoo
          gi_wp2_with fail
          refine ⟨(HKO.out.trans ((((KeepsOthers.setCell _ _ _).trans (KeepsOthers.setCell _ _ _)).trans (KeepsOthers.setCell _ _ _)).trans (KeepsOthers.setCell _ _ _))).from _, HKX.out.trans K4.out, ⟨⟨_, V4.out, ?_, trivial⟩, J4.out⟩, (((hBw.setCell (p := ⟨g, n * 4, none⟩) hg0 _).setCell (p := ⟨g, n * 4 + 1, none⟩) hg0 _).setCell (p := ⟨g, n * 4 + 2, none⟩) hg0 _).setCell (p := ⟨g, n * 4 + 3, none⟩) hg0 _⟩
          have h4 := S4.out.1
          rw [← HFL.out] at h4
          rw [mL, HSN.out, HMS.out, Array.toList_setIfInBounds, List.length_set, hlen]
          exact h4
  case done =>
    rintro D ys W hD hvs ⟨⟨⟨v, hv, hrow, _⟩, hJ⟩, hB⟩ hK
    have hc := hv.cell
    gi_wp2
    refine ⟨by simp, .inl ⟨_, _, rfl, run_takeDeferred hK, ?_⟩⟩
    refine ⟨_, results_tmp rfl _ _ _, v, rfl, ?_, hB.trans (belowK_b (w := w) (Nat.le_refl _) W D _ _ (by omega) hK rfl rfl)⟩
    have := ownsRow_putObj hrow (.deferred none) hK rfl
    rw [mL, hvs] at this
    exact owns_base this (by omega)
  case stop =>
    rintro D c pre W _ _ h _
    exact h.elim

theorem joinT_fn : JoinFn adjB 104 := ⟨enters_of Tryd.func104 (by kernel_rfl) rfl, fun l x w hl hx => by
  obtain ⟨_, _, h1, h2, h3, h4, _⟩ := hl
  have := (okB_iff x).1 hx
  exact joinTargets_any l x w h1 h2 h3 (by omega) this.2.2.2.1 this.2.2.2.2.1⟩
end Go.Proofs.YtjmfcnblkojejaaDoor
