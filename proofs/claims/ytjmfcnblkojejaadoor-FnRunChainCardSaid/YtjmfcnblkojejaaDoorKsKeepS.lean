
/- What the body of a loop over an iterator leaves alone, said as a set of blocks. No program. -/
import Derived.Test.YtjmfcnblkojejaaDoorKsFlow
namespace Go.Proofs.YtjmfcnblkojejaaDoor
open Go.RowKit Go.Shelf

structure KpS (K : Nat → Prop) (W W' : World) : Prop where
  size : W.heap.size ≤ W'.heap.size
  keep : ∀ i, K i → W'.heap[i]? = W.heap[i]?
theorem KpS.refl (K : Nat → Prop) (W : World) : KpS K W W := ⟨Nat.le_refl _, fun _ _ => rfl⟩
theorem KpS.trans {K : Nat → Prop} {A B C : World} (h : KpS K A B) (k : KpS K B C) : KpS K A C :=
  ⟨Nat.le_trans h.size k.size, fun i hi => (k.keep i hi).trans (h.keep i hi)⟩
theorem KpS.of_below {K : Nat → Prop} {W W' : World} (hK : ∀ i, K i → i < W.heap.size) (h : Below W.heap.size W W') : KpS K W W' :=
  ⟨h.size, fun i hi => h.block i (hK i hi)⟩
theorem KpS.alloc {K : Nat → Prop} {W : World} (hK : ∀ i, K i → i < W.heap.size) (o : Obj) : KpS K W (W.alloc o) := .of_below hK ((Below.refl _ _).alloc (Nat.le_refl _) o)
theorem KpS.of_grown {K : Nat → Prop} {W W' : World} {row : Option Nat} (hg : W.grownBy W' row) (hK : ∀ i, K i → i < W.heap.size) (hr : ∀ i, K i → some i ≠ row) : KpS K W W' :=
  ⟨hg.size, fun i hi => hg.block i (hK i hi) (hr i hi)⟩
theorem KpS.set {K : Nat → Prop} {W : World} (a : Addr) (v : Value) (h : ¬ K a.block) : KpS K W (W.setCell a v) :=
  ⟨by simp [World.setCell], fun i hi => Below.heap_setCell W a v i (fun e => h (e ▸ hi))⟩
theorem kpS_b {K : Nat → Prop} {w : World} (hK : ∀ i, K i → i < w.heap.size) (W : World) (l : Nat) (o o' : Obj) (hl : w.heap.size ≤ l) (h : W.heap[l]? = some o) (_ : o.isCells = false) (_ : o.isWalk = false) : KpS K W (W.putObj l o') := by
  have hg := grownBy_putObj' W l o'
  have hl2 := (Array.getElem?_eq_some_iff.1 h).1
  exact .of_grown hg (fun i hi => by have := hK i hi; omega) (fun i hi e => by have := hK i hi; simp at e; omega)
theorem KpS.cell {K : Nat → Prop} {W W' : World} (h : KpS K W W') {b o : Nat} {v : Value} (hb : K b) (hc : W.cell? ⟨b, o, none⟩ = some v) : W'.cell? ⟨b, o, none⟩ = some v := by
  rw [World.cell?_of_block (w := W) (a := ⟨b, o, none⟩) (h.keep b hb)]
  exact hc
end Go.Proofs.YtjmfcnblkojejaaDoor
