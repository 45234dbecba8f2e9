/- A loop over all chains: what its body is handed in the box, and what is left behind the last one. -/
import Derived.Test.YthchhgjnelkmhaaDoorKsChains
import Derived.RangeFuncNested
namespace Go.Proofs.YthchhgjnelkmhaaDoor
open Go.RowKit Go.Shelf Go.Lib Go.Sort

set_option maxHeartbeats 1000000 in
theorem wpIn_chains {g : Operand} {t : Tmp} {assign body : Code} {Q : Exit → Act → World → Prop} {a a1 : Act} {w : World} (m Bc : Nat) (hm : m ≤ 8)
    (hg : a.eval g = .func (.func 77) #[] #[.pointer (some ⟨Bc, 0, none⟩)]) (hc : w.cell? ⟨Bc, 0, none⟩ = some (.int .i64 m)) (hB : Bc < w.heap.size)
    (I Id : Array Int → World → Prop) (h0 : I (upTo m) w)
    (kI : ∀ c W W' row, I c W → W.grownBy W' row → (∀ r, row = some r → w.heap.size ≤ r ∧ r < w.heap.size + 3) → I c W')
    (kId : ∀ c W W' row, Id c W → W.grownBy W' row → (∀ r, row = some r → w.heap.size ≤ r ∧ r < w.heap.size + 3) → Id c W')
    (hass : ∀ (l : Nat) (W : World) (K : Act → World → Prop), K a1 W →
      assign.wpIn (Fence.wide.inRound l) 3 Tryd.prog (Exit.then K (fun _ _ _ => False)) { tmps := a.tmps.setIfInBounds t (.slice (some ⟨w.heap.size + 2, 0, none⟩) m m), defers := [] } W)
    (hbody : ∀ (l : Nat) (c : Array Int) (W : World), OrdOK m c → I c W → BoxN W (w.heap.size + 2) c →
      body.wpIn (Fence.wide.inRound l) 3 Tryd.prog (fun e _ W' => e = .normal ∧ KeepsFrom w.heap.size W W' ∧ Id c W' ∧ BoxN W' (w.heap.size + 2) c) a1 W)
    (hN : ∀ c r W, OrdOK m c → Id c W → NextOf m c r → I r W)
    (hQ : ∀ c W, OrdOK m c → Id c W → (∀ i j, i < j → j < m → c[j]! < c[i]!) → W.heap[w.heap.size]? = some (.deferred (some [])) → Q .normal { a with defers := { target := .collected w.heap.size, args := #[] } :: a.defers } W) :
    (Code.rangeFunc g #[t] assign body).wpIn Fence.wide 5 Tryd.prog Q a w := by
  refine wpIn_rangeFunc ?_
  intro fn hfn
  obtain ⟨rc, hrc⟩ : ∃ rc : LoopState → Loop, rc = fun st => { state := st, pending := none, fn := fn, tmps := a.tmps, params := #[t], assign := assign, body := body, defers := w.heap.size } := ⟨_, rfl⟩
  obtain ⟨W1, hW1⟩ : ∃ W1, W1 = (w.alloc (.deferred (some []))).alloc (.loop (rc .ready)) := ⟨_, rfl⟩
  have z1 : W1.heap.size = w.heap.size + 2 := by rw [hW1]; simp
  have l1 : W1.heap[w.heap.size + 1]? = some (.loop (rc .ready)) := by
    have h := World.alloc_heap_new (w.alloc (.deferred (some []))) (.loop (rc .ready))
    rw [World.size_alloc] at h
    rw [hW1]
    exact h
  have d1 : W1.heap[w.heap.size]? = some (.deferred (some [])) := by
    rw [hW1]
    exact (Below.heap_alloc _ _ _ (by simp)).trans (World.alloc_heap_new w _)
  have g1 : w.grownBy W1 none := by
    rw [hW1]
    exact (World.grownBy_alloc w _ none).trans (World.grownBy_alloc _ _ none)
  have i1 := kI _ _ _ none h0 g1 (fun r e => by cases e)
  have c1 : W1.cell? ⟨Bc, 0, none⟩ = some (.int .i64 m) := (World.cell?_of_block (w := w) (g1.block Bc hB (by simp))).trans hc
  refine ⟨w.heap.size + 1, [{ target := .collected w.heap.size, args := #[] }], W1, { target := .fn (.func 77) #[.pointer (some ⟨Bc, 0, none⟩)], args := #[.func (.yield (w.heap.size + 1)) #[] #[]] }, W1, 77,
    #[.func (.yield (w.heap.size + 1)) #[] #[]] ++ #[.pointer (some ⟨Bc, 0, none⟩)], W1, ?_, ?_, ?_, ?_, fun _ => by omega, ?_⟩
  · rw [hW1, hrc]
    exact run_enterLoop_outer _ _ _ _ _
  · simp only [resolve, hg]
    simp [go_sem]
  · intro f' _
    trivial
  · simp [invoke, go_sem]
  have hk : ∀ (W W' : World) (row : Option Nat), W.grownBy W' row → (∀ r, row = some r → r ≠ w.heap.size ∧ r ≠ w.heap.size + 1) → W.heap[w.heap.size + 1]? = some (.loop (rc .ready)) ∧ W.heap[w.heap.size]? = some (.deferred (some [])) →
      W'.heap[w.heap.size + 1]? = some (.loop (rc .ready)) ∧ W'.heap[w.heap.size]? = some (.deferred (some [])) := by
    rintro W W' row hgr hr ⟨x1, x2⟩
    exact ⟨(hgr.block _ (Array.getElem?_eq_some_iff.1 x1).1 (fun e => (hr _ e.symm).2 rfl)).trans x1, (hgr.block _ (Array.getElem?_eq_some_iff.1 x2).1 (fun e => (hr _ e.symm).1 rfl)).trans x2⟩
  have hwalk := chains_walk 4 Bc (w.heap.size + 1) m (by decide) hm W1
    (fun c W => I c W ∧ W.heap[w.heap.size + 1]? = some (.loop (rc .ready)) ∧ W.heap[w.heap.size]? = some (.deferred (some [])))
    (fun c W => Id c W ∧ W.heap[w.heap.size + 1]? = some (.loop (rc .ready)) ∧ W.heap[w.heap.size]? = some (.deferred (some [])))
    (fun W => ∃ c, OrdOK m c ∧ (∀ i j, i < j → j < m → c[j]! < c[i]!) ∧ Id c W ∧ W.heap[w.heap.size + 1]? = some (.loop (rc .ready)) ∧ W.heap[w.heap.size]? = some (.deferred (some [])))
    (fun W' hb => ⟨kI _ _ _ none i1 (grown_of_below hb) (fun r e => by cases e), hk _ _ none (grown_of_below hb) (fun r e => by cases e) ⟨l1, d1⟩⟩)
    ?_
    (by
      rintro c r W' W'' ho ⟨x1, x2⟩ hnx hgr
      rw [z1] at hgr
      exact ⟨kI _ _ _ _ (hN c r W' ho x1 hnx) hgr (fun q e => by cases e; omega), hk _ _ _ hgr (fun q e => by cases e; omega) x2⟩)
    (by
      rintro c W' W'' ho ⟨x1, x2⟩ hd hgr
      rw [z1] at hgr
      exact ⟨c, ho, hd, kId _ _ _ _ x1 hgr (fun q e => by cases e; omega), hk _ _ _ hgr (fun q e => by cases e; omega) x2⟩)
    c1
  · refine hwalk.mono ?_
    rintro e W2 ⟨⟨v, rfl⟩, c, ho, hd, hi, hl, hdd⟩
    refine ⟨none, _, by have h := run_endLoop (P := Tryd.prog) hl (by rw [hrc]; simp); rw [hrc] at h; exact h, ?_⟩
    exact hQ c _ ho (kId _ _ _ _ hi (grownBy_putObj' _ _ _) (fun q e => by cases e; omega)) hd ((World.putObj_heap_other (by omega)).trans hdd)
  · rintro c W ho ⟨hi, hl, hdd⟩ hbx
    rw [z1] at hbx ⊢
    have hlt : w.heap.size + 1 < W.heap.size := (Array.getElem?_eq_some_iff.1 hl).1
    have hy := run_yield (P := Tryd.prog) (args := #[.slice (some ⟨w.heap.size + 2, 0, none⟩) m m]) hl (by rw [hrc]; rfl)
    rw [hrc] at hy
    have et : (#[t].zip #[Value.slice (some ⟨w.heap.size + 2, 0, none⟩) m m]).foldl (fun (tmps : Array Value) (x : Tmp × Value) => tmps.setIfInBounds x.1 x.2) a.tmps = a.tmps.setIfInBounds t (.slice (some ⟨w.heap.size + 2, 0, none⟩) m m) := by simp
    refine ⟨fn, a.tmps.setIfInBounds t (.slice (some ⟨w.heap.size + 2, 0, none⟩) m m), assign, body, by rw [← et]; exact hy, roundIn_of_wpIn hfn (hass _ W _ ?_)⟩
    clear hy
    refine ⟨_, run_beginRound hl (by rw [hrc]), ?_⟩
    have l2 : (W.putObj (w.heap.size + 1) (.loop { rc .ready with state := .busy })).heap[w.heap.size + 1]? = some (.loop { rc .ready with state := .busy }) := World.putObj_heap_same hlt
    have d2 : (W.putObj (w.heap.size + 1) (.loop { rc .ready with state := .busy })).heap[w.heap.size]? = some (.deferred (some [])) := (World.putObj_heap_other (by omega)).trans hdd
    have i2 := kI _ _ _ _ hi (grownBy_putObj' W (w.heap.size + 1) (.loop { rc .ready with state := .busy })) (fun q e => by cases e; omega)
    have b2 : BoxN (W.putObj (w.heap.size + 1) (.loop { rc .ready with state := .busy })) (w.heap.size + 2) c := (World.putObj_heap_other (by omega)).trans hbx
    refine wpIn_mono (hbody (w.heap.size + 1) c _ ho i2 b2) ?_
    rintro e a3 W3 ⟨rfl, hkf, hid, hb3⟩
    have l3 := hkf.same _ _ (by omega) l2 rfl
    have d3 := hkf.same _ _ (Nat.le_refl _) d2 rfl
    have he := run_endRound (P := Tryd.prog) none l3
    refine ⟨_, _, he, rfl, ⟨kId _ _ _ _ hid (grownBy_putObj' _ _ _) (fun q e => by cases e; omega), ?_, (World.putObj_heap_other (by omega)).trans d3⟩, (World.putObj_heap_other (by omega)).trans hb3⟩
    have h := World.putObj_heap_same (o := .loop { rc .ready with state := .ready, pending := none }) (Array.getElem?_eq_some_iff.1 l3).1
    rw [hrc] at h ⊢
    exact h
end Go.Proofs.YthchhgjnelkmhaaDoor
