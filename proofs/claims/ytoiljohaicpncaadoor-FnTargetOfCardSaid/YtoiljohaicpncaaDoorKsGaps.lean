
/- CountGaps: the program's and the model's. -/
import Derived.Test.YtoiljohaicpncaaDoorKsIterS
import Derived.Test.YtoiljohaicpncaaDoorKsFlatS
import Derived.IntWalk
namespace Go.Proofs.YtoiljohaicpncaaDoor
open Go.RowKit Go.Shelf Go.Lib Go.Sort

attribute [local go_sem] Oper.semAt_some

theorem owns_form {base : Nat} {v : Value} {l : List CaseD} {w : World} (h : OwnsC base v l w) (hn : v ≠ .slice none 0 0) : ∃ g cap, v = .slice (some ⟨g, 0, none⟩) l.length cap ∧ base ≤ g ∧ l.length ≤ cap ∧ cap ≤ maxLen := by
  rcases h.2 with ⟨h0, _⟩ | ⟨g, cap, cur, h0, hb, _, h1, h2, _⟩
  · exact absurd h0 hn
  · exact ⟨g, cap, h0, hb, h1, h2⟩
noncomputable def gapsI (d : Array CaseD) (rest : Int) : Int := if swB d rest = true then (gapsN d rest : Int) else -1

set_option maxRecDepth 100000 in
set_option maxHeartbeats 1000000 in
theorem specGaps_any (b off cap : Nat) (d : Array CaseD) (rest : Int) (w : World) (hR : RowC w b off d) (hcap : d.size ≤ cap) (hmax : cap ≤ maxLen) :
    Calls Tryd.prog 27 #[.agg #[.slice (some ⟨b, off, none⟩) d.size cap, .int .i64 rest]] w fun x w' => x = .returned (.int .i64 (gapsI d rest)) ∧ RowKit.Below w.heap.size w w' := by
  have hv := fun W (hW : RowKit.Below w.heap.size w W) => specValid_any b off cap d rest W (hR.below hW) hcap hmax
  have hk := fun W (hW : RowKit.Below w.heap.size w W) (ho : SwOK d rest) => l2Segments_any b off cap d rest W (hR.below hW) ho
  have HK := Lib.hid hk
  obtain ⟨wa, hwa⟩ : ∃ wa, wa = w.alloc (.cells #[.slice (some ⟨b, off, none⟩) d.size cap, .int .i64 rest] 25) := ⟨_, rfl⟩
  have c0 : wa.cell? ⟨w.heap.size, 0, none⟩ = some (.slice (some ⟨b, off, none⟩) d.size cap) := by rw [hwa]; simp
  have c1 : wa.cell? ⟨w.heap.size, 1, none⟩ = some (.int .i64 rest) := by rw [hwa]; simp
  have hz : w.heap.size < wa.heap.size := by rw [hwa]; simp
  have hba : RowKit.Below w.heap.size w wa := by rw [hwa]; exact (Below.refl _ _).alloc (Nat.le_refl _) _
  have HA := Lib.hid hba
  have C0 := Lib.hid c0
  have C1 := Lib.hid c1
  have HWA := Lib.hid hwa
  clear hba c0 c1 hwa hk hR
  cases hs : swB d rest
  all_goals
    simp only [hs] at hv
    have HV := Lib.hid hv
    have HS := Lib.hid hs
    clear hv hs
    go_enter Tryd.func27, Tryd.ntmps27
    go_wp2_with fail
    rw [← HWA.out]
    refine (HV.out _ HA.out).mono ?_
    rintro x w1 ⟨rfl, hb⟩
    have HB := Lib.hid hb
    have hz1 := hb.size
    have a0 := (hb.cell (p := ⟨w.heap.size, 0, none⟩) hz).trans C0.out
    have a1 := (hb.cell (p := ⟨w.heap.size, 1, none⟩) hz).trans C1.out
    clear hb
    go_wp2_with fail
  · go_ret
    exact ⟨retI (by rw [gapsI, if_neg (by rw [HS.out]; exact Bool.false_ne_true)]), HA.out.trans (HB.out.mono (by omega))⟩
  · have HO := Lib.hid ((swB_iff _ _).1 HS.out)
    have h8 : (d.size : Int) ≤ 8 := by have := HO.out.size; omega
    have HWB := Lib.hid (HA.out.trans (HB.out.mono (by omega)))
    have h17 := segs_length HO.out
    have HE := Lib.hid (gapsN_length HO.out)
    obtain ⟨n, hn⟩ : ∃ n, n = (segs d rest).length := ⟨_, rfl⟩
    rw [← hn] at h17 HE
    have HN := Lib.hid hn
    clear hn
    go_region_with (go_at_call 82; refine (HK.out _ HWB.out.drew HO.out).mono ?_; rintro x w2 ⟨v, rfl, ho, hnn, hb2⟩; obtain ⟨g, cp, hvv, _, _, hcp⟩ := owns_form ho hnn; rw [← HN.out] at hvv; subst hvv; have e0 := (hb2.cell (p := ⟨w.heap.size, 0, none⟩) (Nat.lt_of_lt_of_le hz hz1)).trans a0; have HB2 := Lib.hid (HWB.out.drew.trans (hb2.mono HWB.out.drew.size)); clear ho hnn hb2)
    all_goals
      go_wp2
      go_ret
      exact ⟨retI (by rw [gapsI, if_pos HS.out]; have := HE.out; rw [IntWalk.i64_in _ (by omega)]; omega), HB2.out⟩

/-! the program's -/
theorem grown_below {W W' : World} (h : W.grownBy W' none) : RowKit.Below W.heap.size W W' := (Below.refl _ _).grown h (Nat.le_refl _) (fun k e => by cases e)
def cntZ (l : List CaseD) : Int := (l.filter fun c => c.target.toList == zS.toList).length
theorem cntZ_snoc (l : List CaseD) (x : CaseD) : cntZ (l ++ [x]) = cntZ l + (if (x.target.toList == zS.toList) = true then 1 else 0) := by
  unfold cntZ
  rw [List.filter_append, List.length_append]
  cases h : (x.target.toList == zS.toList) <;> simp [h]
theorem cntZ_le (l : List CaseD) : 0 ≤ cntZ l ∧ cntZ l ≤ l.length := by
  unfold cntZ
  have := List.length_filter_le (fun c : CaseD => c.target.toList == zS.toList) l
  omega
/-- A block that holds one case. -/
def Box4 (W : World) (B : Nat) (x : CaseD) : Prop := W.heap[B]? = some (.cells #[.int .i64 x.low, .int .i64 x.high, .string x.target, .int .i64 x.weight] 35 (0, 0))
theorem Box4.new (W : World) (x : CaseD) : Box4 (W.alloc (.cells #[.int .i64 x.low, .int .i64 x.high, .string x.target, .int .i64 x.weight] 35)) W.heap.size x := World.alloc_heap_new W _
theorem Box4.lt {W : World} {B : Nat} {x : CaseD} (h : Box4 W B x) : B < W.heap.size := (Array.getElem?_eq_some_iff.1 h).1
theorem Box4.kept {W W' : World} {row : Option Nat} {B : Nat} {x : CaseD} (h : Box4 W B x) (hg : W.grownBy W' row) (hne : some B ≠ row) : Box4 W' B x := (hg.block B h.lt hne).trans h
theorem box4_own (B : Nat) (x : CaseD) : Own (fun (_ : Unit) W => Box4 W B x) := fun _ X Y row hs hg hrow =>
  hs.kept hg (fun e' => by obtain ⟨o, ho, hc⟩ := hrow B e'.symm; rw [show X.heap[B]? = _ from hs] at ho; cases ho; cases hc)
theorem Box4.cells {W : World} {B : Nat} {x : CaseD} (h : Box4 W B x) : W.cell? ⟨B, 0, none⟩ = some (.int .i64 x.low) ∧ W.cell? ⟨B, 1, none⟩ = some (.int .i64 x.high) ∧ W.cell? ⟨B, 2, none⟩ = some (.string x.target) ∧ W.cell? ⟨B, 3, none⟩ = some (.int .i64 x.weight) := by
  refine ⟨?_, ?_, ?_, ?_⟩ <;> simp [World.cell?, show W.heap[B]? = _ from h]

set_option maxHeartbeats 400000 in
theorem segmentsIn_any (v : Option Addr) (n cap : Nat) (rest : Int) (w : World) :
    Calls Tryd.prog 81 #[.agg #[.slice v n cap, .int .i64 rest]] w fun x w' => x = .returned (.func (.func 121) #[] #[.pointer (some ⟨w.heap.size, 0, none⟩)]) ∧ w' = w.alloc (.cells #[.slice v n cap, .int .i64 rest] 25) := by
  go_enter Tryd.func81, Tryd.ntmps81
  go_wp2
  go_ret
  exact ⟨rfl, rfl⟩

set_option maxRecDepth 100000 in
set_option maxHeartbeats 2000000 in
theorem implGaps_any (b off cap : Nat) (d : Array CaseD) (rest : Int) (w : World) (hR : RowC w b off d) (hE : ErrAt w) (hcap : d.size ≤ cap) (hmax : cap ≤ maxLen) :
    Calls Tryd.prog 26 #[.agg #[.slice (some ⟨b, off, none⟩) d.size cap, .int .i64 rest]] w fun x w' => x = .returned (.int .i64 (gapsI d rest)) ∧ RowKit.Below w.heap.size w w' := by
  have hv := fun W (hW : RowKit.Below w.heap.size w W) => switchValid_any b off cap d rest W (hR.below hW) (hE.below hW) hcap hmax
  have HR := Lib.hid hR
  obtain ⟨wa, hwa⟩ : ∃ wa, wa = w.alloc (.cells #[.slice (some ⟨b, off, none⟩) d.size cap, .int .i64 rest] 25) := ⟨_, rfl⟩
  have c0 : wa.cell? ⟨w.heap.size, 0, none⟩ = some (.slice (some ⟨b, off, none⟩) d.size cap) := by rw [hwa]; simp
  have c1 : wa.cell? ⟨w.heap.size, 1, none⟩ = some (.int .i64 rest) := by rw [hwa]; simp
  have hz : wa.heap.size = w.heap.size + 1 := by rw [hwa]; simp
  have hba : RowKit.Below w.heap.size w wa := by rw [hwa]; exact (Below.refl _ _).alloc (Nat.le_refl _) _
  have HA := Lib.hid hba
  have C0 := Lib.hid c0
  have C1 := Lib.hid c1
  have HWA := Lib.hid hwa
  clear hba c0 c1 hwa hR hE
  refine (callsIn_wide (n := 5)).1 ?_
  cases hs : swB d rest
  all_goals
    simp only [hs] at hv
    have HV := Lib.hid hv
    have HS := Lib.hid hs
    clear hv hs
    refine callsIn_of_wp_marks Tryd.func26 rfl trivial ?_ rfl
    simp only [Tryd.ntmps26, List.size_toArray, List.length_cons, List.length_nil, Nat.reduceAdd, Nat.reduceSub, Array.replicate_succ, Array.replicate_zero, List.push_toArray, List.append_toArray, List.nil_append, List.cons_append]
    gi_wp2_with fail
    rw [← HWA.out]
    refine ⟨trivial, ?_⟩
    refine (callsIn_wide.2 (HV.out _ HA.out)).mono ?_
    rintro x w1 ⟨rfl, hb⟩
    have HB := Lib.hid hb
    have hz1 := hb.size
    have a0 := (hb.cell (p := ⟨w.heap.size, 0, none⟩) (by rw [hz]; exact Nat.lt_succ_self _)).trans C0.out
    have a1 := (hb.cell (p := ⟨w.heap.size, 1, none⟩) (by rw [hz]; exact Nat.lt_succ_self _)).trans C1.out
    clear hb
    have hwz : w.heap.size < w1.heap.size := by omega
    gi_wp2_with fail
  · refine ⟨_, results_tmp rfl _ _ _, ?_, HA.out.trans (HB.out.mono (by omega))⟩
    exact retI (a := -1) (b := gapsI d rest) (by rw [gapsI, if_neg (by rw [HS.out]; exact Bool.false_ne_true)])
  · have HO := Lib.hid ((swB_iff _ _).1 HS.out)
    have HWB := Lib.hid (HA.out.trans (HB.out.mono (by omega)))
    refine ⟨trivial, ?_⟩
    refine (callsIn_wide.2 (segmentsIn_any (some ⟨b, off, none⟩) d.size cap rest _)).mono ?_
    rintro e w2 ⟨rfl, rfl⟩
    gi_wp2_with fail
    have bX := (Boxed.new w1 3 (.int .i64 0)).alloc (.cells #[.slice (some ⟨b, off, none⟩) d.size cap, .int .i64 rest] 25)
    obtain ⟨W0, hW0⟩ : ∃ W0, W0 = (w1.alloc (.cells #[.int .i64 0] 3)).alloc (.cells #[.slice (some ⟨b, off, none⟩) d.size cap, .int .i64 rest] 25) := ⟨_, rfl⟩
    have e0 : W0.cell? ⟨w1.heap.size + 1, 0, none⟩ = some (.slice (some ⟨b, off, none⟩) d.size cap) := by rw [hW0]; simp [go_sem]
    have e1 : W0.cell? ⟨w1.heap.size + 1, 1, none⟩ = some (.int .i64 rest) := by rw [hW0]; simp [go_sem]
    have hsz : W0.heap.size = w1.heap.size + 2 := by rw [hW0]; simp
    have hB0 : RowKit.Below w1.heap.size w1 W0 := by rw [hW0]; exact ((Below.refl _ _).alloc (Nat.le_refl _) _).alloc (by simp) _
    rw [← hW0] at bX ⊢
    clear hW0
    have hRW := HR.out.below (HWB.out.trans (hB0.mono (by omega)))
    have hbl : b < w1.heap.size := (HR.out.below HWB.out).old
    have hnp : ∀ j, ¬ Pts W0 w1.heap.size j := fun j ⟨u, hu, hj⟩ => by rw [bX.cell] at hu; cases hu; cases hj
    have hx0 : w1.heap.size < W0.heap.size := by omega
    have hseq := segIn_stops 4 w1.heap.size (w1.heap.size + 1) b off cap d rest W0 (by decide) HO.out e0 e1 hRW hx0 (by omega) (by omega) (by omega) hnp
    have HSEQ := Lib.hid hseq
    have HB0 := Lib.hid hB0
    clear hseq hRW hnp e0 e1 hB0
    refine wpIn_rangeFunc_ownH rfl (by decide) (gf := 121) (lb := #[.pointer (some ⟨w1.heap.size + 1, 0, none⟩)]) rfl trivial (enters_of Tryd.func121 (by kernel_rfl) rfl)
      HSEQ.out KpX.trans (kpX_b hx0) (Below.refl _ _) (fun _ => rfl)
      (fun pre W => Boxed W w1.heap.size 3 (.int .i64 (cntZ (vals pre))) ∧ RowKit.Below w1.heap.size w1 W)
      (fun _ _ _ => False)
      (OwnFrom.and (Own.from (boxed_own _ _ _) _) (ownFrom_below (Nat.le_refl _) (by omega)))
      (fun _ _ _ _ _ hs _ _ => hs)
      ⟨bX, HB0.out⟩
      (fun x a' W => ∃ Bx, w1.heap.size < Bx ∧ Box4 W Bx x.1 ∧ a' = { tmps := #[.agg #[.slice (some ⟨b, off, none⟩) d.size cap, .int .i64 rest], .pointer (some ⟨w.heap.size, 0, none⟩), .int .i64 0, .pointer (some ⟨w1.heap.size, 0, none⟩), .pointer (some ⟨Bx, 0, none⟩), .agg #[.slice (some ⟨b, off, none⟩) d.size cap, .int .i64 rest], .bool true, .bool false, .agg #[.slice (some ⟨b, off, none⟩) d.size cap, .int .i64 rest], .func (.func 121) #[] #[.pointer (some ⟨w1.heap.size + 1, 0, none⟩)], .agg #[.int .i64 x.1.low, .int .i64 x.1.high, .string x.1.target, .int .i64 x.1.weight], undef, undef, undef, undef, undef, undef, undef], defers := [] })
      (fun x a' _ X Y row hs hg hr => by obtain ⟨Bx, h1, h2, h3⟩ := hs; exact ⟨Bx, h1, box4_own Bx x.1 () X Y row h2 hg (fun r e => (hr r e).2), h3⟩)
      ?assign ?body ?done ?stop
    case assign =>
      rintro l pre x W K ⟨bX1, hB1⟩ hK
      gi_wp2
      exact hK _ _ ((KeepsOthers.alloc _ _).from _) (KpX.alloc bX1.lt _) ⟨bX1.alloc _, hB1.alloc hB1.size _⟩ ⟨W.heap.size, bX1.lt, Box4.new W x.1, rfl⟩
    case body =>
      rintro l pre x a' W hl ⟨r, hr⟩ ⟨bX1, hB1⟩ ⟨Bx, hBx, b4, rfl⟩ hlt
      have hmx : Tryd.prog.follows .mixedOrders = true := by kernel_rfl
      have hBxl := b4.lt
      have d2 := b4.cells.2.2.1
      have hcz := cntZ_le (vals pre)
      have hvl : (vals pre).length = pre.length := by simp [vals]
      have hsn := cntZ_snoc (vals pre) x.1
      rw [← vals_snoc] at hsn
      have HSN := Lib.hid hsn
      obtain ⟨cz, hcze⟩ : ∃ cz, cz = cntZ (vals pre) := ⟨_, rfl⟩
      rw [← hcze] at bX1 hcz HSN
      have BX1 := Lib.hid bX1
      have HB1 := Lib.hid hB1
      have hXl := bX1.lt
      have htx := Lib.hid (fun W => text_any W)
      clear hsn hcze bX1 hB1 hr b4
      have hcz1 : 0 ≤ cz := hcz.1
      have hcz2 : cz ≤ 17 := by have := hcz.2; omega
      clear hcz hvl
      cases hq : (x.1.target.toList == zS.toList)
      all_goals
        have HQ := Lib.hid hq
        gi_wp2
        gi_region_with_o (refine ⟨trivial, ?_⟩; gi_at_call 67; refine (CallsIn.inRound l (callsIn_wide.2 (htx.out _))).mono ?_; rintro e w' ⟨rfl, hb⟩; have q2 := (hb.cell (p := ⟨Bx, 2, none⟩) hBxl).trans d2; have HBT := Lib.hid hb; have BX2 := Lib.hid (BX1.out.kept (grown_of_below ((Below.refl _ W).drew.trans hb)) (by simp)); have HG := Lib.hid (grown_of_below ((Below.refl _ W).drew.trans hb)); have cX2 := BX2.out.cell; have fX2 := BX2.out.frozen; clear hb)
        all_goals gi_wp2
      iterate 3
        · have he : cntZ (vals (pre ++ [x])) = cz := by rw [HSN.out, HQ.out]; simp
          exact ⟨(KeepsOthers.of_grownBy HG.out (fun j o e _ => by cases e)).from _, KpX.of_grown hXl HG.out, by rw [he]; exact BX2.out, HB1.out.trans ((grown_below HG.out).mono HB1.out.size)⟩
      iterate 3
        · have he : cntZ (vals (pre ++ [x])) = cz + 1 := by rw [HSN.out, HQ.out]; simp
          exact ⟨((KeepsOthers.of_grownBy HG.out (fun j o e _ => by cases e)).trans (KeepsOthers.setCell _ _ _)).from _, (KpX.of_grown hXl HG.out).trans (KpX.set BX2.out _ rfl), by rw [he]; exact BX2.out.set _, (HB1.out.trans ((grown_below HG.out).mono HB1.out.size)).setCell (p := ⟨w1.heap.size, 0, none⟩) (Nat.le_refl _) _⟩
    case done =>
      rintro D ys W hD hv ⟨bX1, hB1⟩ hK
      have cX := bX1.cell
      gi_wp2
      refine ⟨by simp, .inl ⟨_, _, rfl, run_takeDeferred hK, ?_⟩⟩
      refine ⟨_, results_tmp rfl _ _ _, ?_, ?_⟩
      · exact retI (a := cntZ (segs d rest)) (b := gapsI d rest) (by rw [gapsI, if_pos HS.out]; rfl)
      · exact HWB.out.trans ((hB1.trans (belowK_b (w := w1) (Nat.le_refl _) W D _ _ (by omega) hK rfl rfl)).mono (by omega))
    case stop =>
      rintro D c pre W _ _ h _
      exact h.elim
end Go.Proofs.YtoiljohaicpncaaDoor
