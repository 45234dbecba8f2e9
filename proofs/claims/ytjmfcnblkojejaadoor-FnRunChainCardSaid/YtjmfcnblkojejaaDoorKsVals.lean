
/- slices.Values of a chain, collected and sorted. -/
import Derived.Test.YtjmfcnblkojejaaDoorKsKeepS
import Derived.Test.YtjmfcnblkojejaaDoorKsOrdQ
namespace Go.Proofs.YtjmfcnblkojejaaDoor
open Go.RowKit Go.Shelf Go.Lib Go.Sort

attribute [local go_sem] Oper.semAt_some

theorem RowN.kp {W W' : World} {K : Nat → Prop} (h : KpS K W W') {b off : Nat} {o : Array Int} (hb : K b) (hR : RowN W b off o) : RowN W' b off o :=
  ⟨Nat.lt_of_lt_of_le hR.old h.size, fun j hj => h.cell hb (hR.cell j hj)⟩

set_option maxHeartbeats 400000 in
theorem values_any (v : Option Addr) (n cap : Nat) (w : World) :
    Calls Tryd.prog 117 #[.slice v n cap] w fun x w' => x = .returned (.func (.func 131) #[] #[.pointer (some ⟨w.heap.size, 0, none⟩)]) ∧ w' = w.alloc (.cells #[.slice v n cap] 87) := by
  go_enter Tryd.func117, Tryd.ntmps117
  go_wp2
  go_ret
  exact ⟨rfl, rfl⟩

set_option maxRecDepth 100000 in
set_option maxHeartbeats 2000000 in
theorem values_walk (n b off cap l N Bs : Nat) (o : Array Int) (hn : 1 ≤ n) (hN : o.size ≤ N) (ho : o.size ≤ 1048576) (J Jx : List Int → World → Prop) (M : Nat) (_hJ : AbidesFrom M J)
    (hY : ∀ pre x W, J pre W → pre.length < N → YieldAt Fence.wide (n - 1) Tryd.prog l #[.int .i64 x] W fun e W' =>
      (e = .returned (.bool true) ∧ J (pre ++ [x]) W' ∧ KpS (fun i => i = b) W W') ∨ (e = .returned (.bool false) ∧ Jx (pre ++ [x]) W'))
    (W : World) (hc : W.cell? ⟨Bs, 0, none⟩ = some (.slice (some ⟨b, off, none⟩) o.size cap)) (hR : RowN W b off o) (h0 : J [] W) :
    CallsIn Fence.wide n Tryd.prog 131 #[.func (.yield l) #[] #[], .pointer (some ⟨Bs, 0, none⟩)] W fun e W' => (∃ v, e = .returned v) ∧
      ((∃ ys, ys = o.toList ∧ J ys W') ∨ (∃ pre, True ∧ Jx pre W')) := by
  have HR := Lib.hid hR
  have HJ0 := Lib.hid h0
  have HY := Lib.hid hY
  have ho' : (o.size : Int) ≤ 1048576 := by omega
  clear hR h0 hY _hJ
  refine callsIn_of_wp Tryd.func131 rfl trivial ?_ rfl
  simp only [Tryd.ntmps131, List.size_toArray, List.length_cons, List.length_nil, Nat.reduceAdd, Nat.reduceSub, Array.replicate_succ, Array.replicate_zero, List.push_toArray, List.append_toArray, List.nil_append, List.cons_append]
  gi_wp2
  clear hc
  gi_loopw [7] (fun i wr => ∃ (k : Nat), i = .int .i64 k ∧ k ≤ o.size ∧ Hid (J (o.toList.take k) wr) ∧ Hid (RowN wr b off o)) (fun i _ => o.size - (Lib.intOf i).toNat)
  case atStart => exact ⟨0, rfl, Nat.zero_le _, HJ0.out, HR.out⟩
  case round =>
    obtain ⟨k, rfl, hk, HJk, HRk⟩ := hrel
    by_cases hlt : k < o.size
    · have x0 := HRk.out.cell k hlt
      obtain ⟨x, hxe⟩ : ∃ x, x = o[k]! := ⟨_, rfl⟩
      rw [← hxe] at x0
      have XE := Lib.hid hxe
      clear hxe
      have HTK := Lib.hid (show o.toList.take (k + 1) = o.toList.take k ++ [x] by rw [List.take_succ_eq_append_getElem (by simpa using hlt), get_list, XE.out])
      obtain ⟨fn, tmps, assign, body, hy, hR⟩ := HY.out _ x wr HJk.out (by simp; omega)
      have HR2 := Lib.hid hR
      clear hR
      gi_wp2_with fail
      refine HR2.out.mono ?_
      rintro e W3 (⟨rfl, hJ3, hk3⟩ | ⟨rfl, hJx3⟩)
      · have HJ3 := Lib.hid hJ3
        have HR3 := Lib.hid (HRk.out.kp hk3 rfl)
        clear hy hJ3 hk3 HR2
        gi_wp2
        go_roundw
        case rel => exact ⟨k + 1, by go_num, by omega, (show J _ _ by rw [HTK.out]; exact HJ3.out), HR3.out⟩
        case measure => simp [Lib.intOf]; omega
      · gi_wp2
        refine bodyPost_ret (results_none rfl _ _ _) rfl ?_
        exact ⟨⟨_, rfl⟩, .inr ⟨_, trivial, hJx3⟩⟩
    · have hke : o.toList.take k = o.toList := List.take_of_length_le (by simp; omega)
      have HKE := Lib.hid hke
      clear hke
      gi_wp2
      go_end0
      exact ⟨⟨_, rfl⟩, .inl ⟨_, HKE.out, HJk.out⟩⟩

/-- What Values hands back: all numbers, in order. -/
theorem values_stops (n b off cap Bs N : Nat) (o : Array Int) (w : World) (hn : 1 ≤ n) (hN : o.size ≤ N) (ho : o.size ≤ 1048576) (c0 : w.cell? ⟨Bs, 0, none⟩ = some (.slice (some ⟨b, off, none⟩) o.size cap)) (hR : RowN w b off o) (hB : Bs < w.heap.size) :
    SeqStopsK Fence.wide n Tryd.prog 131 #[.pointer (some ⟨Bs, 0, none⟩)] (fun x : Int => #[Value.int .i64 x]) (KpS fun i => i = b) (fun ys => ys = o.toList) (fun _ => True) N w := fun l J Jx W hW hJ _ hY h0 =>
  values_walk n b off cap l N Bs o hn hN ho J Jx _ hJ hY W ((hW.cell (p := ⟨Bs, 0, none⟩) hB).trans c0) (hR.below hW) h0

/-! AppendSeq, Collect, Sorted -/
theorem infoN : (Tryd.prog.info? 3).map (fun i => (i.zero, i.size, i.bytes)) = some (some (.int .i64 0), 1, 8) := by kernel_rfl
theorem tSlN : 43 ≠ 3 := by decide
theorem cell_at1 {W : World} {g : Nat} {v0 : Value} {T : TypeId} (hg : g = W.heap.size) : ∀ j u, [v0][j]? = some u → (W.alloc (.cells #[v0] T)).cell? ((⟨g, 0, none⟩ : Addr).add j) = some u := fun j u hj => by
  subst hg
  match j, hj with
  | 0, hj => simp at hj; subst hj; simp [Addr.add]
  | j + 1, hj => simp at hj
theorem one_cell1 (x : Int) : ∀ v ∈ [Value.int .i64 x], v.oneCell' = true := fun v hv => by
  simp at hv
  subst hv
  rfl
def OwnsN (base : Nat) (v : Value) (l : List Int) (w : World) : Prop := w.ownsRow base 3 1 v l.length (l.map encN)

set_option maxRecDepth 100000 in
set_option maxHeartbeats 2000000 in
theorem appendSeqN_any (gf b N : Nat) (lb : Array Value) (L : List Int) (w : World) (hN : N ≤ 1048576) (hb : b < w.heap.size) (eg : ∀ args w, (callFunc gf args).run Tryd.prog w = .ok (.enter gf args) w)
    (hseq : SeqStopsK Fence.wide 4 Tryd.prog gf lb (fun x : Int => #[Value.int .i64 x]) (KpS fun i => i = b) (fun ys => ys = L) (fun _ => True) N (w.alloc (.cells #[.slice none 0 0] 43))) :
    Calls Tryd.prog 141 #[.slice none 0 0, .func (.func gf) #[] lb] w fun x w' => ∃ v, x = .returned v ∧ OwnsN w.heap.size v L w' ∧ RowKit.Below w.heap.size w w' := by
  have HSEQ := Lib.hid hseq
  obtain ⟨i0, hi, hi0, hi1, hi2⟩ := info_parts infoN
  clear hseq
  refine (callsIn_wide (n := 5)).1 ?_
  refine callsIn_of_wp_marks Tryd.func141 rfl trivial ?_ rfl
  simp only [Tryd.ntmps141, List.size_toArray, List.length_cons, List.length_nil, Nat.reduceAdd, Nat.reduceSub, Array.replicate_succ, Array.replicate_zero, List.push_toArray, List.append_toArray, List.nil_append, List.cons_append]
  gi_wp2
  have bX := Boxed.new w 43 (.slice none 0 0)
  have hB0 : RowKit.Below w.heap.size w (w.alloc (.cells #[.slice none 0 0] 43)) := (Below.refl _ w).alloc (Nat.le_refl _) _
  have hsz : (w.alloc (.cells #[.slice none 0 0] 43)).heap.size = w.heap.size + 1 := by simp
  obtain ⟨W0, hW0⟩ : ∃ W0, W0 = w.alloc (.cells #[.slice none 0 0] 43) := ⟨_, rfl⟩
  rw [← hW0] at HSEQ bX hB0 hsz ⊢
  clear hW0
  have hx0 : w.heap.size < W0.heap.size := by omega
  refine wpIn_rangeFunc_ownH rfl (by decide) (gf := gf) (lb := lb) rfl trivial eg
    HSEQ.out KpS.trans (kpS_b (fun i hi => by omega)) (Below.refl _ _) (fun _ => rfl)
    (fun pre W => (∃ v, Boxed W w.heap.size 43 v ∧ W.ownsRow w.heap.size 3 1 v pre.length (pre.map encN) ∧ True) ∧ RowKit.Below w.heap.size w W)
    (fun _ _ _ => False)
    (OwnFrom.and (Own.from (holdsRow_own w.heap.size w.heap.size 43 3 1 (fun pre : List Int => pre.length) (fun pre => pre.map encN) (fun _ _ => True)) _) (ownFrom_below (Nat.le_refl _) (by omega)))
    (fun _ _ _ _ _ hs _ _ => hs)
    ⟨⟨_, bX, World.ownsRow_nil _ _ _ _, trivial⟩, hB0⟩
    (fun x a' _ => a' = { tmps := #[.slice none 0 0, .func (.func gf) #[] lb, .pointer (some ⟨w.heap.size, 0, none⟩), undef, .slice none 0 0, .int .i64 x, .func (.func gf) #[] lb, .int .i64 x, undef, undef, undef, undef, undef], defers := [] })
    (fun x a' _ X Y row hs hg hr => hs)
    ?assign ?body ?done ?stop
  case assign =>
    rintro l pre x W K ⟨⟨v, bX1, hrow, _⟩, hB1⟩ hK
    gi_wp2
    exact hK _ _ ((KeepsOthers.refl _).from _) (KpS.refl _ _) ⟨⟨v, bX1, hrow, trivial⟩, hB1⟩ rfl
  case body =>
    rintro l pre x a' W hl ⟨r, hr⟩ ⟨⟨v, hv, hrow, _⟩, hB⟩ rfl hlt
    have hvl : pre.length ≤ 1048576 := by omega
    have hc := hv.cell
    have hsB := hB.size
    have HVB := Lib.hid (fun g (e : v.ownBlock = some g) => (hrow.lt g e).1)
    have hXl := hv.lt
    gi_wp2_with (gi_at_builtin; refine wpListIn_append_at _ rfl _ _ 43 rfl w.heap.size 3 i0 (.int .i64 0) 1 8 Tryd.underlying43 hi hi0 hi1 hi2 rfl (by decide) _ _ _ rfl (hrow.alloc _) ⟨W.heap.size, 0, none⟩ 1 1 [.int .i64 x] rfl rfl (cell_at1 rfl) (one_cell1 x) (by unfold maxLen; omega) (by omega) (by simp; omega) (by decide) ?_; intro v' w1 hown' hgrow hat; have HAT := Lib.hid hat; clear hat; obtain ⟨g', cap', rfl⟩ := ownsRow_succ hown'; obtain ⟨hv1, hv2, hr2, hk2, hb2⟩ := hv.appended tSlN hrow hsB (Nat.le_refl _) hown' hgrow; have HKP := Lib.hid (((KpS.alloc (K := fun i => i = b) (W := W) (fun i hi => by omega) (.cells #[.int .i64 x] 3)).trans (KpS.of_grown hgrow (fun i hi => by simp; omega) (fun i hi e => by have := HVB.out i e.symm; omega))).trans (KpS.set ⟨w.heap.size, 0, none⟩ (.slice (some ⟨g', 0, none⟩) (pre.length + 1) cap') (fun e => by simp at e; omega))); have hc1 := hv1.cell; have hf1 := hv1.frozen)
    refine ⟨hk2.from _, HKP.out, ⟨⟨_, hv2, ?_, trivial⟩, hB.trans hb2⟩⟩
    simpa using hr2
  case done =>
    rintro D ys W hD hvs ⟨⟨v, hv, hrow, _⟩, hB⟩ hK
    have hc := hv.cell
    gi_wp2
    refine ⟨by simp, .inl ⟨_, _, rfl, run_takeDeferred hK, ?_⟩⟩
    refine ⟨_, results_tmp rfl _ _ _, v, rfl, ?_, hB.trans (belowK_b (w := w) (Nat.le_refl _) W D _ _ (by omega) hK rfl rfl)⟩
    have := ownsRow_putObj hrow (.deferred none) hK rfl
    rw [hvs] at this
    exact this
  case stop =>
    rintro D c pre W _ _ h _
    exact h.elim

set_option maxHeartbeats 1000000 in
theorem collectN_any (gf b N : Nat) (lb : Array Value) (L : List Int) (w : World) (hN : N ≤ 1048576) (hb : b < w.heap.size) (eg : ∀ args w, (callFunc gf args).run Tryd.prog w = .ok (.enter gf args) w)
    (hseq : SeqStopsK Fence.wide 4 Tryd.prog gf lb (fun x : Int => #[Value.int .i64 x]) (KpS fun i => i = b) (fun ys => ys = L) (fun _ => True) N (w.alloc (.cells #[.slice none 0 0] 43))) :
    Calls Tryd.prog 129 #[.func (.func gf) #[] lb] w fun x w' => ∃ v, x = .returned v ∧ OwnsN w.heap.size v L w' ∧ RowKit.Below w.heap.size w w' := by
  have hc := Lib.hid (appendSeqN_any gf b N lb L w hN hb eg hseq)
  clear hseq eg
  go_enter Tryd.func129, Tryd.ntmps129
  go_wp2_with (go_at_call 141; refine hc.out.mono ?_; rintro x w' ⟨v, rfl, ho, hb⟩; have HO := Lib.hid ho; have HB := Lib.hid hb; clear ho hb)
  go_ret
  exact ⟨v, rfl, HO.out, HB.out⟩

end Go.Proofs.YtjmfcnblkojejaaDoor
