
/- slices.Collect over an iterator of cases that promises all of them: a slice of the call's own; SegmentsOf of the program and the model. -/
import Derived.Test.YtjmfcnblkojejaaDoorKsFlow
namespace Go.Proofs.YtjmfcnblkojejaaDoor
open Go.RowKit Go.Shelf Go.Lib Go.Sort

attribute [local go_sem] Oper.semAt_some

abbrev encCase : SegD → Array Value := fun x => #[Value.agg #[.int .i64 x.1.low, .int .i64 x.1.high, .string x.1.target, .int .i64 x.1.weight]]
theorem tSl : 23 ≠ 35 := by decide

set_option maxRecDepth 100000 in
set_option maxHeartbeats 2000000 in
theorem appendSeq_any (gf : Nat) (lb : Array Value) (L : List CaseD) (w : World) (eg : ∀ args w, (callFunc gf args).run Tryd.prog w = .ok (.enter gf args) w)
    (hseq : SeqStopsK Fence.wide 4 Tryd.prog gf lb encCase (KpX w.heap.size) (fun ys => vals ys = L) (fun _ => True) 17 (w.alloc (.cells #[.slice none 0 0] 23))) :
    Calls Tryd.prog 95 #[.slice none 0 0, .func (.func gf) #[] lb] w fun x w' => ∃ v, x = .returned v ∧ OwnsC w.heap.size v L w' ∧ RowKit.Below w.heap.size w w' := by
  have HSEQ := Lib.hid hseq
  obtain ⟨i0, hi, hi0, hi1, hi2⟩ := info_parts infoC
  clear hseq
  refine (callsIn_wide (n := 5)).1 ?_
  refine callsIn_of_wp_marks Tryd.func95 rfl trivial ?_ rfl
  simp only [Tryd.ntmps95, List.size_toArray, List.length_cons, List.length_nil, Nat.reduceAdd, Nat.reduceSub, Array.replicate_succ, Array.replicate_zero, List.push_toArray, List.append_toArray, List.nil_append, List.cons_append]
  gi_wp2
  have bX := Boxed.new w 23 (.slice none 0 0)
  have hB0 : RowKit.Below w.heap.size w (w.alloc (.cells #[.slice none 0 0] 23)) := (Below.refl _ w).alloc (Nat.le_refl _) _
  have hsz : (w.alloc (.cells #[.slice none 0 0] 23)).heap.size = w.heap.size + 1 := by simp
  obtain ⟨W0, hW0⟩ : ∃ W0, W0 = w.alloc (.cells #[.slice none 0 0] 23) := ⟨_, rfl⟩
  rw [← hW0] at HSEQ bX hB0 hsz ⊢
  clear hW0
  have hx0 : w.heap.size < W0.heap.size := by omega
  refine wpIn_rangeFunc_ownH rfl (by decide) (gf := gf) (lb := lb) rfl trivial eg
    HSEQ.out KpX.trans (kpX_b hx0) (Below.refl _ _) (fun _ => rfl)
    (fun pre W => (∃ v, Boxed W w.heap.size 23 v ∧ W.ownsRow w.heap.size 35 4 v (vals pre).length (flatL (vals pre)) ∧ True) ∧ RowKit.Below w.heap.size w W)
    (fun _ _ _ => False)
    (OwnFrom.and (Own.from (holdsRow_own w.heap.size w.heap.size 23 35 4 (fun pre => (vals pre).length) (fun pre => flatL (vals pre)) (fun _ _ => True)) _) (ownFrom_below (Nat.le_refl _) (by omega)))
    (fun _ _ _ _ _ hs _ _ => hs)
    ⟨⟨_, bX, World.ownsRow_nil _ _ _ _, trivial⟩, hB0⟩
    (fun x a' W => ∃ Bx, w.heap.size < Bx ∧ Box4 W Bx x.1 ∧ a' = { tmps := #[.slice none 0 0, .func (.func gf) #[] lb, .pointer (some ⟨w.heap.size, 0, none⟩), undef, .slice none 0 0, .pointer (some ⟨Bx, 0, none⟩), .func (.func gf) #[] lb, .agg #[.int .i64 x.1.low, .int .i64 x.1.high, .string x.1.target, .int .i64 x.1.weight], undef, undef, undef, undef, undef], defers := [] })
    (fun x a' _ X Y row hs hg hr => by obtain ⟨Bx, h1, h2, h3⟩ := hs; exact ⟨Bx, h1, box4_own Bx x.1 () X Y row h2 hg (fun r e => (hr r e).2), h3⟩)
    ?assign ?body ?done ?stop
  case assign =>
    rintro l pre x W K ⟨⟨v, bX1, hrow, _⟩, hB1⟩ hK
    gi_wp2
    exact hK _ _ ((KeepsOthers.alloc _ _).from _) (KpX.alloc bX1.lt _) ⟨⟨v, bX1.alloc _, hrow.alloc _, trivial⟩, hB1.alloc hB1.size _⟩ ⟨W.heap.size, bX1.lt, Box4.new W x.1, rfl⟩
  case body =>
    rintro l pre x a' W hl ⟨r, hr⟩ ⟨⟨v, hv, hrow, _⟩, hB⟩ ⟨Bx, hBx, b4, rfl⟩ hlt
    have hvl : (vals pre).length ≤ 17 := by simp [vals]; omega
    have hc := hv.cell
    obtain ⟨d0, d1, d2, d3⟩ := b4.cells
    have hBxl := b4.lt
    have hsB := hB.size
    gi_wp2_with (gi_at_builtin; refine wpListIn_append_at _ rfl _ _ 23 rfl w.heap.size 35 i0 zeroC 4 40 Tryd.underlying23 hi hi0 hi1 hi2 rfl (by decide) _ _ _ rfl (hrow.alloc _) ⟨W.heap.size, 0, none⟩ 1 1 (encC x.1) rfl rfl (cells_at rfl) (encC_one _) (by unfold maxLen; omega) (by omega) (by simp; omega) (by decide) ?_; intro v' w1 hown' hgrow hat; have HAT := Lib.hid hat; clear hat; obtain ⟨g', cap', rfl⟩ := ownsRow_succ hown'; obtain ⟨hv1, hv2, hr2, hk2, hb2⟩ := hv.appended tSl hrow hsB (Nat.le_refl _) hown' hgrow; have HKP := Lib.hid (KpX.appended hv tSl hrow hown' hgrow HAT.out); have hc1 := hv1.cell; have hf1 := hv1.frozen)
    refine ⟨hk2.from _, HKP.out, ⟨⟨_, hv2, ?_, trivial⟩, hB.trans hb2⟩⟩
    rw [vals_snoc, ← flatL_snoc]
    simpa using hr2
  case done =>
    rintro D ys W hD hvs ⟨⟨v, hv, hrow, _⟩, hB⟩ hK
    have hc := hv.cell
    gi_wp2
    refine ⟨by simp, .inl ⟨_, _, rfl, run_takeDeferred hK, ?_⟩⟩
    refine ⟨_, results_tmp rfl _ _ _, v, rfl, ?_, hB.trans (belowK_b (w := w) (Nat.le_refl _) W D _ _ (by omega) hK rfl rfl)⟩
    have := ownsRow_putObj hrow (.deferred none) hK rfl
    rw [hvs] at this
    exact this
  case stop =>
    rintro D c pre W _ _ h _
    exact h.elim

set_option maxHeartbeats 1000000 in
theorem collect_any (gf : Nat) (lb : Array Value) (L : List CaseD) (w : World) (eg : ∀ args w, (callFunc gf args).run Tryd.prog w = .ok (.enter gf args) w)
    (hseq : SeqStopsK Fence.wide 4 Tryd.prog gf lb encCase (KpX w.heap.size) (fun ys => vals ys = L) (fun _ => True) 17 (w.alloc (.cells #[.slice none 0 0] 23))) :
    Calls Tryd.prog 48 #[.func (.func gf) #[] lb] w fun x w' => ∃ v, x = .returned v ∧ OwnsC w.heap.size v L w' ∧ RowKit.Below w.heap.size w w' := by
  have hc := Lib.hid (appendSeq_any gf lb L w eg hseq)
  clear hseq eg
  go_enter Tryd.func48, Tryd.ntmps48
  go_wp2_with (go_at_call 95; refine hc.out.mono ?_; rintro x w' ⟨v, rfl, ho, hb⟩; have HO := Lib.hid ho; have HB := Lib.hid hb; clear ho hb)
  go_ret
  exact ⟨v, rfl, HO.out, HB.out⟩

/-- All segments of a valid switch that lies in memory, collected. -/
theorem collectSegs_any (b off cap : Nat) (d : Array CaseD) (rest : Int) (w : World) (hR : RowC w b off d) (hok : SwOK d rest) :
    Calls Tryd.prog 48 #[.func (.func 96) #[] #[.pointer (some ⟨w.heap.size, 0, none⟩)]] (w.alloc (.cells #[.slice (some ⟨b, off, none⟩) d.size cap, .int .i64 rest] 25))
      fun x w' => ∃ v, x = .returned v ∧ OwnsC (w.heap.size + 1) v (segs d rest) w' ∧ RowKit.Below w.heap.size w w' := by
  obtain ⟨w2, hw2⟩ : ∃ w2, w2 = w.alloc (.cells #[.slice (some ⟨b, off, none⟩) d.size cap, .int .i64 rest] 25) := ⟨_, rfl⟩
  have e0 : w2.cell? ⟨w.heap.size, 0, none⟩ = some (.slice (some ⟨b, off, none⟩) d.size cap) := by rw [hw2]; simp
  have e1 : w2.cell? ⟨w.heap.size, 1, none⟩ = some (.int .i64 rest) := by rw [hw2]; simp
  have hz : w2.heap.size = w.heap.size + 1 := by rw [hw2]; simp
  have hb : RowKit.Below w.heap.size w w2 := by rw [hw2]; exact (Below.refl _ _).alloc (Nat.le_refl _) _
  rw [← hw2]
  have hb3 : RowKit.Below w2.heap.size w2 (w2.alloc (.cells #[.slice none 0 0] 23)) := (Below.refl _ _).alloc (Nat.le_refl _) _
  have bX := Boxed.new w2 23 (.slice none 0 0)
  have hnp : ∀ j, ¬ Pts (w2.alloc (.cells #[.slice none 0 0] 23)) w2.heap.size j := fun j ⟨u, hu, hj⟩ => by rw [bX.cell] at hu; cases hu; cases hj
  have hold := hR.old
  refine (collect_any 96 _ (segs d rest) w2 (enters_of Tryd.func96 (by kernel_rfl) rfl)
    (segIn_stops 4 w2.heap.size w.heap.size b off cap d rest _ (by decide) hok ((hb3.cell (p := ⟨w.heap.size, 0, none⟩) (by omega : w.heap.size < w2.heap.size)).trans e0) ((hb3.cell (p := ⟨w.heap.size, 1, none⟩) (by omega : w.heap.size < w2.heap.size)).trans e1)
      ((hR.below hb).below hb3) (by simp) (by simp; omega) (by omega) (by omega) hnp)).mono ?_
  rintro x w' ⟨v, rfl, ho, hb4⟩
  rw [hz] at ho
  exact ⟨v, rfl, ho, hb.trans (hb4.mono (by omega))⟩

/-! SegmentsOf -/
noncomputable def segsN (d : Array CaseD) (rest : Int) : List CaseD := if swB d rest = true then segs d rest else []
theorem segsN_on {d : Array CaseD} {rest : Int} (h : swB d rest = true) : segsN d rest = segs d rest := by rw [segsN, if_pos h]
theorem segsN_off {d : Array CaseD} {rest : Int} (h : swB d rest = false) : segsN d rest = [] := by rw [segsN, if_neg (by rw [h]; exact Bool.false_ne_true)]
theorem ret2v {v : Value} {a b : Bool} (h : a = b) : Ending.returned (.tuple #[v, .bool a]) = .returned (.tuple #[v, .bool b]) := by rw [h]
/-- Two results: a slice of the call's own, and whether the switch is valid. -/
def Segs2 (base : Nat) (d : Array CaseD) (rest : Int) (w : World) (x : Ending) (w' : World) : Prop :=
  ∃ v, x = .returned (.tuple #[v, .bool (swB d rest)]) ∧ OwnsC base v (segsN d rest) w' ∧ RowKit.Below base w w'

set_option maxRecDepth 100000 in
set_option maxHeartbeats 1000000 in
theorem implSegs_any (b off cap : Nat) (d : Array CaseD) (rest : Int) (w : World) (hR : RowC w b off d) (hE : ErrAt w) (hcap : d.size ≤ cap) (hmax : cap ≤ maxLen) :
    Calls Tryd.prog 8 #[.agg #[.slice (some ⟨b, off, none⟩) d.size cap, .int .i64 rest]] w (Segs2 w.heap.size d rest w) := by
  have hv := fun W (hW : RowKit.Below w.heap.size w W) => switchValid_any b off cap d rest W (hR.below hW) (hE.below hW) hcap hmax
  have HR := Lib.hid hR
  obtain ⟨wa, hwa⟩ : ∃ wa, wa = w.alloc (.cells #[.slice (some ⟨b, off, none⟩) d.size cap, .int .i64 rest] 25) := ⟨_, rfl⟩
  have c0 : wa.cell? ⟨w.heap.size, 0, none⟩ = some (.slice (some ⟨b, off, none⟩) d.size cap) := by rw [hwa]; simp
  have c1 : wa.cell? ⟨w.heap.size, 1, none⟩ = some (.int .i64 rest) := by rw [hwa]; simp
  have hz : w.heap.size < wa.heap.size := by rw [hwa]; simp
  have hba : RowKit.Below w.heap.size w wa := by rw [hwa]; exact (Below.refl _ _).alloc (Nat.le_refl _) _
  have HA := Lib.hid hba
  have C0 := Lib.hid c0
  have C1 := Lib.hid c1
  have HWA := Lib.hid hwa
  have HSG := Lib.hid (show Segs2 w.heap.size d rest w = fun x w' => ∃ v, x = .returned (.tuple #[v, .bool (swB d rest)]) ∧ OwnsC w.heap.size v (segsN d rest) w' ∧ RowKit.Below w.heap.size w w' from rfl)
  clear hba c0 c1 hwa hR hE
  cases hs : swB d rest
  all_goals
    simp only [hs] at hv
    have HV := Lib.hid hv
    have HS := Lib.hid hs
    clear hv hs
    go_enter Tryd.func8, Tryd.ntmps8
    go_wp2_with fail
    rw [← HWA.out]
    refine (HV.out _ HA.out).mono ?_
    rintro x w1 ⟨rfl, hb⟩
    have HB := Lib.hid hb
    have hz1 := hb.size
    have a0 := (hb.cell (p := ⟨w.heap.size, 0, none⟩) hz).trans C0.out
    have a1 := (hb.cell (p := ⟨w.heap.size, 1, none⟩) hz).trans C1.out
    clear hb
    go_wp2_with fail
  · go_ret2
    exact ⟨_, ret2v HS.out.symm, by rw [segsN_off HS.out]; exact World.ownsRow_nil _ _ _ _, HA.out.trans (HB.out.mono (by omega))⟩
  · have HWB := Lib.hid (HA.out.trans (HB.out.mono (by omega)))
    refine (segmentsIn_any (some ⟨b, off, none⟩) d.size cap rest w1).mono ?_
    rintro x w2 ⟨rfl, rfl⟩
    go_wp2_with fail
    refine (collectSegs_any b off cap d rest w1 (HR.out.below HWB.out) ((swB_iff _ _).1 HS.out)).mono ?_
    rintro x w3 ⟨v, rfl, ho, hb3⟩
    have HO := Lib.hid ho
    have HB3 := Lib.hid hb3
    clear ho hb3
    go_wp2
    go_ret2
    exact ⟨_, ret2v HS.out.symm, by rw [segsN_on HS.out]; exact owns_base HO.out (by omega), HWB.out.trans (HB3.out.mono (by omega))⟩

set_option maxRecDepth 100000 in
set_option maxHeartbeats 1000000 in
theorem specSegs_any (b off cap : Nat) (d : Array CaseD) (rest : Int) (w : World) (hR : RowC w b off d) (hcap : d.size ≤ cap) (hmax : cap ≤ maxLen) :
    Calls Tryd.prog 9 #[.agg #[.slice (some ⟨b, off, none⟩) d.size cap, .int .i64 rest]] w (Segs2 w.heap.size d rest w) := by
  have hv := fun W (hW : RowKit.Below w.heap.size w W) => specValid_any b off cap d rest W (hR.below hW) hcap hmax
  have hk := fun W (hW : RowKit.Below w.heap.size w W) (ho : SwOK d rest) => l2Segments_any b off cap d rest W (hR.below hW) ho
  have HK := Lib.hid hk
  obtain ⟨wa, hwa⟩ : ∃ wa, wa = w.alloc (.cells #[.slice (some ⟨b, off, none⟩) d.size cap, .int .i64 rest] 25) := ⟨_, rfl⟩
  have c0 : wa.cell? ⟨w.heap.size, 0, none⟩ = some (.slice (some ⟨b, off, none⟩) d.size cap) := by rw [hwa]; simp
  have c1 : wa.cell? ⟨w.heap.size, 1, none⟩ = some (.int .i64 rest) := by rw [hwa]; simp
  have hz : w.heap.size < wa.heap.size := by rw [hwa]; simp
  have hba : RowKit.Below w.heap.size w wa := by rw [hwa]; exact (Below.refl _ _).alloc (Nat.le_refl _) _
  have HA := Lib.hid hba
  have C0 := Lib.hid c0
  have C1 := Lib.hid c1
  have HWA := Lib.hid hwa
  clear hba c0 c1 hwa hR hk
  cases hs : swB d rest
  all_goals
    simp only [hs] at hv
    have HV := Lib.hid hv
    have HS := Lib.hid hs
    clear hv hs
    go_enter Tryd.func9, Tryd.ntmps9
    go_wp2_with fail
    rw [← HWA.out]
    refine (HV.out _ HA.out).mono ?_
    rintro x w1 ⟨rfl, hb⟩
    have HB := Lib.hid hb
    have hz1 := hb.size
    have a0 := (hb.cell (p := ⟨w.heap.size, 0, none⟩) hz).trans C0.out
    have a1 := (hb.cell (p := ⟨w.heap.size, 1, none⟩) hz).trans C1.out
    clear hb
    go_wp2_with fail
  · have HWB := Lib.hid (HA.out.trans (HB.out.mono (by omega)))
    go_ret2
    refine ⟨_, ret2v HS.out.symm, ?_, HWB.out.alloc (by omega) _⟩
    rw [segsN_off HS.out]
    have := World.ownsRow_made (base := w.heap.size) (e := 35) (size := 4) w1 #[] 0 (by omega) (by unfold maxLen; omega) rfl
    exact this
  · have HWB := Lib.hid (HA.out.trans (HB.out.mono (by omega)))
    refine (HK.out _ HWB.out ((swB_iff _ _).1 HS.out)).mono ?_
    rintro x w3 ⟨v, rfl, ho, _, hb3⟩
    have HO := Lib.hid ho
    have HB3 := Lib.hid hb3
    clear ho hb3
    go_wp2
    go_ret2
    exact ⟨_, ret2v HS.out.symm, by rw [segsN_on HS.out]; exact owns_base HO.out (by omega), HWB.out.trans (HB3.out.mono (by omega))⟩
end Go.Proofs.YtjmfcnblkojejaaDoor
