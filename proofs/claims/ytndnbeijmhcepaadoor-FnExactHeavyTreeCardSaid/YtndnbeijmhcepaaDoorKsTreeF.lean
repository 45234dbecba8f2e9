
/- Reading a tree, the model's leaves: its reader's bytes and numbers. -/
import Derived.Test.YtndnbeijmhcepaaDoorKsTreeB
import Derived.Test.YtndnbeijmhcepaaDoorKsNum
import Derived.RangeFuncBox
namespace Go.Proofs.YtndnbeijmhcepaaDoor
open Go.RowKit

/-- The model's reader: a text, how much of it is read, whether it is bad. -/
def RdS (w : World) (R : Nat) (s : ByteArray) (p : Nat) (b : Bool) : Prop := w.heap[R]? = some (.cells #[.string s, .int .i64 p, .bool b] 98 (0, 0))
section
variable {w w' : World} {R p : Nat} {s : ByteArray} {b : Bool}
theorem RdS.lt (h : RdS w R s p b) : R < w.heap.size := (Array.getElem?_eq_some_iff.1 h).1
theorem RdS.c0 (h : RdS w R s p b) : w.cell? ⟨R, 0, none⟩ = some (.string s) := by simp [World.cell?, show w.heap[R]? = _ from h]
theorem RdS.c1 (h : RdS w R s p b) : w.cell? ⟨R, 1, none⟩ = some (.int .i64 p) := by simp [World.cell?, show w.heap[R]? = _ from h]
theorem RdS.c2 (h : RdS w R s p b) : w.cell? ⟨R, 2, none⟩ = some (.bool b) := by simp [World.cell?, show w.heap[R]? = _ from h]
theorem RdS.z1 (h : RdS w R s p b) : w.frozen? ⟨R, 1, none⟩ = false := by simp [World.frozen?, show w.heap[R]? = _ from h]
theorem RdS.z2 (h : RdS w R s p b) : w.frozen? ⟨R, 2, none⟩ = false := by simp [World.frozen?, show w.heap[R]? = _ from h]
theorem RdS.kept {row : Option Nat} (h : RdS w R s p b) (hg : w.grownBy w' row) (hne : some R ≠ row) : RdS w' R s p b := (hg.block R h.lt hne).trans h
theorem RdS.setAt (h : RdS w R s p b) (q : Nat) : RdS (w.setCell ⟨R, 1, none⟩ (.int .i64 q)) R s q b := by
  obtain ⟨hlt, hk⟩ := Array.getElem?_eq_some_iff.1 h
  show (w.heap.modify R _)[R]? = _
  rw [Array.getElem?_eq_getElem (by rw [Array.size_modify]; exact hlt), Array.getElem_modify_self, hk]
  rfl
theorem RdS.setBad (h : RdS w R s p b) (c : Bool) : RdS (w.setCell ⟨R, 2, none⟩ (.bool c)) R s p c := by
  obtain ⟨hlt, hk⟩ := Array.getElem?_eq_some_iff.1 h
  show (w.heap.modify R _)[R]? = _
  rw [Array.getElem?_eq_getElem (by rw [Array.size_modify]; exact hlt), Array.getElem_modify_self, hk]
  rfl
end
theorem grown_setCell (W : World) (b o : Nat) (v : Value) : W.grownBy (W.setCell ⟨b, o, none⟩ v) (some b) :=
  ⟨rfl, rfl, rfl, (KeepsWalks.setCell W _ v).size, fun k _ hk => Below.heap_setCell _ _ _ k (fun e => hk (by rw [e]))⟩

theorem grown_drewNT {w w' : World} {row : Option Nat} (n : Nat) (h : (w.drewN n).grownBy w' row) : w.grownBy w' row := ⟨h.os, h.tape, h.output, h.size, h.block⟩
/-- A block of three cells. -/
def Box3 (w : World) (B : Nat) (t : TypeId) (v0 v1 v2 : Value) : Prop := w.heap[B]? = some (.cells #[v0, v1, v2] t (0, 0))
section
variable {w w' : World} {B : Nat} {t : TypeId} {v0 v1 v2 : Value}
theorem Box3.lt (h : Box3 w B t v0 v1 v2) : B < w.heap.size := (Array.getElem?_eq_some_iff.1 h).1
theorem Box3.c0 (h : Box3 w B t v0 v1 v2) : w.cell? ⟨B, 0, none⟩ = some v0 := by simp [World.cell?, show w.heap[B]? = _ from h]
theorem Box3.c1 (h : Box3 w B t v0 v1 v2) : w.cell? ⟨B, 1, none⟩ = some v1 := by simp [World.cell?, show w.heap[B]? = _ from h]
theorem Box3.c2 (h : Box3 w B t v0 v1 v2) : w.cell? ⟨B, 2, none⟩ = some v2 := by simp [World.cell?, show w.heap[B]? = _ from h]
theorem Box3.z (h : Box3 w B t v0 v1 v2) (o : Nat) : w.frozen? ⟨B, o, none⟩ = false := by simp [World.frozen?, show w.heap[B]? = _ from h]
theorem Box3.kept {row : Option Nat} (h : Box3 w B t v0 v1 v2) (hg : w.grownBy w' row) (hne : some B ≠ row) : Box3 w' B t v0 v1 v2 := (hg.block B h.lt hne).trans h
theorem Box3.new (w : World) (t : TypeId) (v0 v1 v2 : Value) : Box3 (w.alloc (.cells #[v0, v1, v2] t)) w.heap.size t v0 v1 v2 := World.alloc_heap_new w _
theorem Box3.drawn (h : Box3 w B t v0 v1 v2) (n : Nat) : Box3 (w.drewN n) B t v0 v1 v2 := h
theorem Box3.alloc (h : Box3 w B t v0 v1 v2) (o : Obj) : Box3 (w.alloc o) B t v0 v1 v2 := h.kept (World.grownBy_alloc w o none) (by simp)
theorem Box3.setOther (h : Box3 w B t v0 v1 v2) {k : Nat} (hk : B ≠ k) (o : Nat) (v : Value) : Box3 (w.setCell ⟨k, o, none⟩ v) B t v0 v1 v2 := h.kept (grown_setCell w k o v) (by intro e; cases e; exact hk rfl)
theorem Box3.set0 (h : Box3 w B t v0 v1 v2) (v : Value) : Box3 (w.setCell ⟨B, 0, none⟩ v) B t v v1 v2 := by
  obtain ⟨hlt, hk⟩ := Array.getElem?_eq_some_iff.1 h
  show (w.heap.modify B _)[B]? = _
  rw [Array.getElem?_eq_getElem (by rw [Array.size_modify]; exact hlt), Array.getElem_modify_self, hk]
  rfl
theorem Box3.set1 (h : Box3 w B t v0 v1 v2) (v : Value) : Box3 (w.setCell ⟨B, 1, none⟩ v) B t v0 v v2 := by
  obtain ⟨hlt, hk⟩ := Array.getElem?_eq_some_iff.1 h
  show (w.heap.modify B _)[B]? = _
  rw [Array.getElem?_eq_getElem (by rw [Array.size_modify]; exact hlt), Array.getElem_modify_self, hk]
  rfl
theorem Box3.set2 (h : Box3 w B t v0 v1 v2) (v : Value) : Box3 (w.setCell ⟨B, 2, none⟩ v) B t v0 v1 v := by
  obtain ⟨hlt, hk⟩ := Array.getElem?_eq_some_iff.1 h
  show (w.heap.modify B _)[B]? = _
  rw [Array.getElem?_eq_getElem (by rw [Array.size_modify]; exact hlt), Array.getElem_modify_self, hk]
  rfl
end

/-- What is left of a text. -/
def rest (s : ByteArray) (p : Nat) : List UInt8 := (ls s).drop p
theorem rest_cons {s : ByteArray} {p : Nat} (h : p < s.size) : rest s p = s[p] :: rest s (p + 1) := by
  rw [rest, rest, List.drop_eq_getElem_cons (by rw [ls_len]; exact h), ls_get s p h]
theorem rest_nil {s : ByteArray} {p : Nat} (h : s.size ≤ p) : rest s p = [] := by rw [rest, List.drop_eq_nil_iff, ls_len]; exact h
theorem rest_len (s : ByteArray) (p : Nat) : (rest s p).length = s.size - p := by rw [rest, List.length_drop, ls_len]

/-! the reader's marks -/
set_option maxHeartbeats 400000 in
theorem is_hit (R : Nat) (s : ByteArray) (p : Nat) (b : Bool) (c : UInt8) (l : List UInt8) (h : skL c (rest s p) = some l) (hs : s.size ≤ 2000000) (w : World) (hR : RdS w R s p b) :
    Calls Tryd.prog 78 #[.pointer (some ⟨R, 0, none⟩), .int .u8 c.toNat] w fun x w' => x = .returned (.tuple #[]) ∧ RdS w' R s (p + 1) b ∧ w.grownBy w' (some R) := by
  have hp : p < s.size := by
    rcases Nat.lt_or_ge p s.size with h' | h'
    · exact h'
    · rw [rest_nil h'] at h; cases h
  have hc : (s[p].toNat : Int) = (c.toNat : Int) := by
    rw [rest_cons hp] at h
    simp only [skL] at h
    split at h
    · rename_i e; rw [e]
    · cases h
  have c0 := hR.c0
  have c1 := hR.c1
  have z1 := hR.z1
  have HR := Lib.hid hR
  have hpi : (p : Int) < (s.size : Int) := by omega
  have hsi : (s.size : Int) ≤ 2000000 := by omega
  have hcb : ((s[p].toNat : Int) == (c.toNat : Int)) = true := by simpa using hc
  clear hR h hc
  go_enter Tryd.func78, Tryd.ntmps78
  go_wp2
  go_quiet (fail)
  go_wp2
  go_end0
  exact ⟨rfl, RdS.setAt (w := w.drewN _) HR.out (p + 1), grown_drewNT _ (grown_setCell _ _ _ _)⟩
set_option maxHeartbeats 400000 in
theorem is_miss (R : Nat) (s : ByteArray) (p : Nat) (b : Bool) (c : UInt8) (h : skL c (rest s p) = none) (hs : s.size ≤ 2000000) (hps : p ≤ s.size) (w : World) (hR : RdS w R s p b) :
    Calls Tryd.prog 78 #[.pointer (some ⟨R, 0, none⟩), .int .u8 c.toNat] w fun x w' => x = .returned (.tuple #[]) ∧ RdS w' R s p true ∧ w.grownBy w' (some R) := by
  have c0 := hR.c0
  have c1 := hR.c1
  have z2 := hR.z2
  have hb := hR.c2
  have HR := Lib.hid hR
  have hsi : (s.size : Int) ≤ 2000000 := by omega
  by_cases hp : p < s.size
  · have hc : ((s[p].toNat : Int) == (c.toNat : Int)) = false := by
      rw [rest_cons hp] at h
      simp only [skL] at h
      split at h
      · cases h
      · rename_i e; simp; intro e2; exact e (UInt8.toNat_inj.1 (by omega))
    have hpi : (p : Int) < (s.size : Int) := by omega
    clear hR h
    go_enter Tryd.func78, Tryd.ntmps78
    go_wp2
    go_quiet (fail)
    go_wp2
    go_end0
    exact ⟨rfl, RdS.setBad (w := w.drewN _) HR.out true, grown_drewNT _ (grown_setCell _ _ _ _)⟩
  · have hpi : ¬ (p : Int) < (s.size : Int) := by omega
    clear hR h
    go_enter Tryd.func78, Tryd.ntmps78
    go_wp2
    go_quiet (fail)
    go_wp2
    go_end0
    exact ⟨rfl, RdS.setBad (w := w.drewN _) HR.out true, grown_drewNT _ (grown_setCell _ _ _ _)⟩
end Go.Proofs.YtndnbeijmhcepaaDoor
