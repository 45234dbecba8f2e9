
/- The keys of a tree, each a case by itself, yielded: keysIn, and what its closure promises to every loop over it. -/
import Derived.Test.YtndnbeijmhcepaaDoorKsIterS
import Derived.Test.YtndnbeijmhcepaaDoorKsTrFn
import Derived.Test.YtndnbeijmhcepaaDoorKsSwP
namespace Go.Proofs.YtndnbeijmhcepaaDoor
open Go.RowKit Go.Shelf Go.Lib Go.Sort

attribute [local go_sem] Oper.semAt_some

/-- A tree all whose blocks lie below a number. -/
def TreeUp (X : Nat) (w : World) : TreeD → Value → Prop
  | .leaf c, v => v = .iface 77 (.int .u8 c.toNat)
  | .cmp k l r, v => ∃ (B : Nat) (x y : Value), v = .iface 115 (.pointer (some ⟨B, 0, none⟩)) ∧ B < X ∧ w.heap[B]? = some (.cells #[.int .i64 k, x, y] 117 (0, 0)) ∧ TreeUp X w l x ∧ TreeUp X w r y
theorem TreeUp.of_at {b : Nat} {w : World} : ∀ {t : TreeD} {v : Value}, TreeAt b w t v → TreeUp w.heap.size w t v
  | .leaf _, _, h => h
  | .cmp _ _ _, _, ⟨B, x, y, e, _, hh, hl, hr⟩ => ⟨B, x, y, e, (Array.getElem?_eq_some_iff.1 hh).1, hh, TreeUp.of_at hl, TreeUp.of_at hr⟩
theorem TreeUp.at {X : Nat} {w : World} : ∀ {t : TreeD} {v : Value}, TreeUp X w t v → TreeAt 0 w t v
  | .leaf _, _, h => h
  | .cmp _ _ _, _, ⟨B, x, y, e, _, hh, hl, hr⟩ => ⟨B, x, y, e, Nat.zero_le _, hh, TreeUp.at hl, TreeUp.at hr⟩
theorem TreeUp.mono {X Y : Nat} (hXY : X ≤ Y) {w : World} : ∀ {t : TreeD} {v : Value}, TreeUp X w t v → TreeUp Y w t v
  | .leaf _, _, h => h
  | .cmp _ _ _, _, ⟨B, x, y, e, hB, hh, hl, hr⟩ => ⟨B, x, y, e, by omega, hh, hl.mono hXY, hr.mono hXY⟩
theorem TreeUp.same {X : Nat} {w w' : World} (h : ∀ B o, B < X → w.heap[B]? = some o → o.isCells = true → w'.heap[B]? = some o) : ∀ {t : TreeD} {v : Value}, TreeUp X w t v → TreeUp X w' t v
  | .leaf _, _, h' => h'
  | .cmp _ _ _, _, ⟨B, x, y, e, hB, hh, hl, hr⟩ => ⟨B, x, y, e, hB, h B _ hB hh rfl, hl.same h, hr.same h⟩

set_option maxHeartbeats 400000 in
theorem keysIn_any (T : TypeId) (u : Value) (w : World) :
    Calls Tryd.prog 45 #[.iface T u] w fun x w' => x = .returned (.func (.func 65) #[] #[.pointer (some ⟨w.heap.size, 0, none⟩)]) ∧ w' = w.alloc (.cells #[.iface T u] 69) := by
  go_enter Tryd.func45, Tryd.ntmps45
  go_wp2
  go_ret
  exact ⟨rfl, rfl⟩

/-- What the iterator reads between two rounds: its box, the tree; the loop's own row lies in a younger block. -/
structure ItK (n₀ X B : Nat) (t : TreeD) (v : Value) (W : World) : Prop where
  c0 : W.cell? ⟨B, 0, none⟩ = some v
  tree : TreeUp X W t v
  size : n₀ ≤ W.heap.size
  Xlt : X < n₀
  Blt : B < n₀
  XB : X ≠ B
  pts : ∀ j, Pts W X j → n₀ ≤ j ∧ j < W.heap.size
section
variable {n₀ X B : Nat} {t : TreeD} {v : Value} {W W' : World}
theorem ItK.kp (h : ItK n₀ X B t v W) (k : KpX X W W') : ItK n₀ X B t v W' := by
  have pB : ¬ Pts W X B := fun hp => by have := (h.pts B hp).1; have := h.Blt; omega
  refine ⟨k.cell h.XB.symm pB h.c0, h.tree.same (fun b o hb ho hc => k.keep b o ho hc (by omega) (fun hp => by have := (h.pts b hp).1; have := h.Xlt; omega)), Nat.le_trans h.size k.size, h.Xlt, h.Blt, h.XB, fun j hj => ?_⟩
  refine ⟨?_, k.lt (fun i hi => (h.pts i hi).2) j hj⟩
  rcases k.pts j hj with h1 | h1
  · exact (h.pts j h1).1
  · exact Nat.le_trans h.size h1
theorem ItK.below (h : ItK n₀ X B t v W) (k : RowKit.Below W.heap.size W W') : ItK n₀ X B t v W' := by
  have hs := h.size
  have hx := h.Xlt
  exact h.kp (KpX.of_below (by omega) k)
end

set_option maxRecDepth 100000 in
set_option maxHeartbeats 2000000 in
theorem keys_walk (n n₀ X B l : Nat) (t : TreeD) (v : Value) (hn : 1 ≤ n) (hc : countT t ≤ 1000000) (J Jx : List SegD → World → Prop) (N : Nat) (hJ : AbidesFrom N J)
    (hY : ∀ pre x W, J pre W → pre.length < 32 → YieldAt Fence.wide (n - 1) Tryd.prog l (encs x) W fun e W' =>
      (e = .returned (.bool true) ∧ J (pre ++ [x]) W' ∧ KpX X W W') ∨ (e = .returned (.bool false) ∧ Jx (pre ++ [x]) W'))
    (W : World) (hI : ItK n₀ X B t v W) (h0 : J [] W) :
    CallsIn Fence.wide n Tryd.prog 65 #[.func (.yield l) #[] #[], .pointer (some ⟨B, 0, none⟩)] W fun e W' => (∃ v, e = .returned v) ∧
      ((∃ ys, vals ys = keysC t 32 ∧ J ys W') ∨ (∃ pre, True ∧ Jx pre W')) := by
  have HI := Lib.hid hI
  have HJ0 := Lib.hid h0
  have HJ := Lib.hid hJ
  have HY := Lib.hid hY
  have HF := Lib.hid (fun key W hW => find_any key t hc 0 W v hW)
  clear hI h0 hJ hY hc
  refine callsIn_of_wp Tryd.func65 rfl trivial ?_ rfl
  simp only [Tryd.ntmps65, List.size_toArray, List.length_cons, List.length_nil, Nat.reduceAdd, Nat.reduceSub, Array.replicate_succ, Array.replicate_zero, List.push_toArray, List.append_toArray, List.nil_append, List.cons_append]
  gi_wp2
  gi_loopw [6] (fun i wr => ∃ (k : Nat) (pre : List SegD), i = .int .i64 k ∧ k ≤ 32 ∧ Hid (vals pre = keysC t k) ∧ Hid (J pre wr) ∧ Hid (ItK n₀ X B t v wr)) (fun i _ => 32 - (intOf i).toNat)
  case atStart => exact ⟨0, [], rfl, Nat.zero_le _, rfl, HJ0.out, HI.out⟩
  case round =>
    obtain ⟨k, pre, rfl, hk, HV, HJk, HIk⟩ := hrel
    by_cases hlt : k < 32
    · have b0 := HIk.out.c0
      have HFk := Lib.hid (HF.out (k : Int) wr HIk.out.tree.at)
      have HKS := Lib.hid (keysC_succ t k)
      have HKC := Lib.hid (show keyC t k = ⟨(k : Int), (k : Int), strS (goS t k), 0⟩ from rfl)
      have HKO := Lib.hid (keyC_ok t k hlt)
      have hgo : (trT t (k : Int)).1 = goS t k := rfl
      rw [hgo] at HFk
      obtain ⟨g, hg⟩ : ∃ g, g = goS t k := ⟨_, rfl⟩
      rw [← hg] at HFk HKC
      obtain ⟨st, hst⟩ : ∃ st, st = (trT t (k : Int)).2 := ⟨_, rfl⟩
      rw [← hst] at HFk
      obtain ⟨x, hx⟩ : ∃ x, x = keyC t k := ⟨_, rfl⟩
      rw [← hx] at HKC HKS HKO
      have hpl : pre.length < 32 := by
        have h2 : (vals pre).length = pre.length := by simp [vals]
        rw [HV.out, keysC_length] at h2
        omega
      have hki : (k : Int) < 32 := by omega
      clear hg hst hx hgo
      gi_wp2_with fail
      refine ⟨trivial, ?_⟩
      refine (callsIn_wide.2 HFk.out).mono ?_
      rintro e w2 ⟨rfl, rfl⟩
      gi_wp2_with fail
      refine ⟨trivial, ?_⟩
      refine (callsIn_wide.2 (ttext_any g _)).mono ?_
      rintro e w3 ⟨rfl, hb3⟩
      have HI3 := Lib.hid (HIk.out.below hb3)
      obtain ⟨fn, tmps, assign, body, hy, hR⟩ := HY.out pre ⟨x, HKO.out⟩ w3 (abides_below HJ.out HJk.out hb3) hpl
      dsimp only [encs, aggC] at hy
      rw [HKC.out] at hy
      dsimp only [strS] at hy
      have HR := Lib.hid hR
      clear hR hb3
      gi_wp2_with fail
      refine HR.out.mono ?_
      rintro e W4 (⟨rfl, hJ4, hk4⟩ | ⟨rfl, hJx4⟩)
      · have HJ4 := Lib.hid hJ4
        have HI4 := Lib.hid (HI3.out.kp hk4)
        clear hy hJ4 hk4 HR
        gi_wp2
        go_roundw
        case rel => exact ⟨k + 1, _, by go_num, by omega, (show vals _ = _ by rw [vals_snoc, HV.out, HKS.out]), HJ4.out, HI4.out⟩
        case measure => simp [intOf]; omega
      · gi_wp2
        refine bodyPost_ret (results_none rfl _ _ _) rfl ?_
        exact ⟨⟨_, rfl⟩, .inr ⟨_, trivial, hJx4⟩⟩
    · have hke : k = 32 := by omega
      have HKE := Lib.hid (show vals pre = keysC t 32 by rw [HV.out, hke])
      have hkn : ¬ (k : Int) < 32 := by omega
      clear hke
      gi_wp2_with fail
      go_end0
      exact ⟨⟨_, rfl⟩, .inl ⟨_, HKE.out, HJk.out⟩⟩

/-- What keysIn hands back: all keys, in order. -/
theorem keys_stops (n X B b : Nat) (t : TreeD) (v : Value) (w w0 : World) (hn : 1 ≤ n) (hc : countT t ≤ 1000000) (c0 : w.cell? ⟨B, 0, none⟩ = some v)
    (ht : TreeAt b w0 t v) (hw0 : RowKit.Below w0.heap.size w0 w) (h0X : w0.heap.size ≤ X) (hX : X < w.heap.size) (hB : B < w.heap.size) (hXB : X ≠ B) (hp : ∀ j, ¬ Pts w X j) :
    SeqStopsK Fence.wide n Tryd.prog 65 #[.pointer (some ⟨B, 0, none⟩)] (fun x : SegD => #[Value.agg #[.int .i64 x.1.low, .int .i64 x.1.high, .string x.1.target, .int .i64 x.1.weight]]) (KpX X) (fun ys => vals ys = keysC t 32) (fun _ => True) 32 w := fun l J Jx W hW hJ _ hY h0 => by
  have hx : W.heap[X]? = w.heap[X]? := hW.block X hX
  have hT : TreeUp X W t v := ((TreeUp.of_at ht).mono h0X).same (fun i o hi ho _ => by
    by_cases hi0 : i < w0.heap.size
    · exact (hW.block i (Nat.lt_of_lt_of_le hi0 hw0.size)).trans ((hw0.block i hi0).trans ho)
    · exact absurd (Array.getElem?_eq_some_iff.1 ho).1 hi0)
  exact keys_walk n w.heap.size X B l t v hn hc J Jx _ hJ hY W ⟨(hW.cell (p := ⟨B, 0, none⟩) hB).trans c0, hT, hW.size, hX, hB, hXB, fun j hj => absurd ((Pts.of_heap hx).1 hj) (hp j)⟩ h0
end Go.Proofs.YtndnbeijmhcepaaDoor
