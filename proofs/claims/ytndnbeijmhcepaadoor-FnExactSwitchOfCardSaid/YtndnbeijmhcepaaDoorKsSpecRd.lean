
/- Reading a tree, the model's leaves: its reader's bytes and numbers. · Reading a tree, the model: numbers, digits, and the reader of a node. · Reading a tree, the model: the whole tree. · Reading a tree, the model: a comparison. -/
import Derived.Test.YtndnbeijmhcepaaDoorKsTreeP
import Derived.Test.YtndnbeijmhcepaaDoorKsNum
import Derived.RangeFuncBox
import Derived.Test.YtndnbeijmhcepaaDoorKsDec
namespace Go.Proofs.YtndnbeijmhcepaaDoor
open Go.RowKit

/-- The model's reader: a text, how much of it is read, whether it is bad. -/
def RdS (w : World) (R : Nat) (s : ByteArray) (p : Nat) (b : Bool) : Prop := w.heap[R]? = some (.cells #[.string s, .int .i64 p, .bool b] 98 (0, 0))
section
variable {w w' : World} {R p : Nat} {s : ByteArray} {b : Bool}
theorem RdS.lt (h : RdS w R s p b) : R < w.heap.size := (Array.getElem?_eq_some_iff.1 h).1
theorem RdS.c0 (h : RdS w R s p b) : w.cell? ⟨R, 0, none⟩ = some (.string s) := by simp [World.cell?, show w.heap[R]? = _ from h]
theorem RdS.c1 (h : RdS w R s p b) : w.cell? ⟨R, 1, none⟩ = some (.int .i64 p) := by simp [World.cell?, show w.heap[R]? = _ from h]
theorem RdS.c2 (h : RdS w R s p b) : w.cell? ⟨R, 2, none⟩ = some (.bool b) := by simp [World.cell?, show w.heap[R]? = _ from h]
theorem RdS.z1 (h : RdS w R s p b) : w.frozen? ⟨R, 1, none⟩ = false := by simp [World.frozen?, show w.heap[R]? = _ from h]
theorem RdS.z2 (h : RdS w R s p b) : w.frozen? ⟨R, 2, none⟩ = false := by simp [World.frozen?, show w.heap[R]? = _ from h]
theorem RdS.kept {row : Option Nat} (h : RdS w R s p b) (hg : w.grownBy w' row) (hne : some R ≠ row) : RdS w' R s p b := (hg.block R h.lt hne).trans h
theorem RdS.setAt (h : RdS w R s p b) (q : Nat) : RdS (w.setCell ⟨R, 1, none⟩ (.int .i64 q)) R s q b := by
  obtain ⟨hlt, hk⟩ := Array.getElem?_eq_some_iff.1 h
  show (w.heap.modify R _)[R]? = _
  rw [Array.getElem?_eq_getElem (by rw [Array.size_modify]; exact hlt), Array.getElem_modify_self, hk]
  rfl
theorem RdS.setBad (h : RdS w R s p b) (c : Bool) : RdS (w.setCell ⟨R, 2, none⟩ (.bool c)) R s p c := by
  obtain ⟨hlt, hk⟩ := Array.getElem?_eq_some_iff.1 h
  show (w.heap.modify R _)[R]? = _
  rw [Array.getElem?_eq_getElem (by rw [Array.size_modify]; exact hlt), Array.getElem_modify_self, hk]
  rfl
end
theorem grown_setCell (W : World) (b o : Nat) (v : Value) : W.grownBy (W.setCell ⟨b, o, none⟩ v) (some b) :=
  ⟨rfl, rfl, rfl, (KeepsWalks.setCell W _ v).size, fun k _ hk => Below.heap_setCell _ _ _ k (fun e => hk (by rw [e]))⟩

theorem grown_drewNT {w w' : World} {row : Option Nat} (n : Nat) (h : (w.drewN n).grownBy w' row) : w.grownBy w' row := ⟨h.os, h.tape, h.output, h.size, h.block⟩
/-- A block of three cells. -/
def Box3 (w : World) (B : Nat) (t : TypeId) (v0 v1 v2 : Value) : Prop := w.heap[B]? = some (.cells #[v0, v1, v2] t (0, 0))
section
variable {w w' : World} {B : Nat} {t : TypeId} {v0 v1 v2 : Value}
theorem Box3.lt (h : Box3 w B t v0 v1 v2) : B < w.heap.size := (Array.getElem?_eq_some_iff.1 h).1
theorem Box3.c0 (h : Box3 w B t v0 v1 v2) : w.cell? ⟨B, 0, none⟩ = some v0 := by simp [World.cell?, show w.heap[B]? = _ from h]
theorem Box3.c1 (h : Box3 w B t v0 v1 v2) : w.cell? ⟨B, 1, none⟩ = some v1 := by simp [World.cell?, show w.heap[B]? = _ from h]
theorem Box3.c2 (h : Box3 w B t v0 v1 v2) : w.cell? ⟨B, 2, none⟩ = some v2 := by simp [World.cell?, show w.heap[B]? = _ from h]
theorem Box3.z (h : Box3 w B t v0 v1 v2) (o : Nat) : w.frozen? ⟨B, o, none⟩ = false := by simp [World.frozen?, show w.heap[B]? = _ from h]
theorem Box3.kept {row : Option Nat} (h : Box3 w B t v0 v1 v2) (hg : w.grownBy w' row) (hne : some B ≠ row) : Box3 w' B t v0 v1 v2 := (hg.block B h.lt hne).trans h
theorem Box3.new (w : World) (t : TypeId) (v0 v1 v2 : Value) : Box3 (w.alloc (.cells #[v0, v1, v2] t)) w.heap.size t v0 v1 v2 := World.alloc_heap_new w _
theorem Box3.drawn (h : Box3 w B t v0 v1 v2) (n : Nat) : Box3 (w.drewN n) B t v0 v1 v2 := h
theorem Box3.alloc (h : Box3 w B t v0 v1 v2) (o : Obj) : Box3 (w.alloc o) B t v0 v1 v2 := h.kept (World.grownBy_alloc w o none) (by simp)
theorem Box3.setOther (h : Box3 w B t v0 v1 v2) {k : Nat} (hk : B ≠ k) (o : Nat) (v : Value) : Box3 (w.setCell ⟨k, o, none⟩ v) B t v0 v1 v2 := h.kept (grown_setCell w k o v) (by intro e; cases e; exact hk rfl)
theorem Box3.set0 (h : Box3 w B t v0 v1 v2) (v : Value) : Box3 (w.setCell ⟨B, 0, none⟩ v) B t v v1 v2 := by
  obtain ⟨hlt, hk⟩ := Array.getElem?_eq_some_iff.1 h
  show (w.heap.modify B _)[B]? = _
  rw [Array.getElem?_eq_getElem (by rw [Array.size_modify]; exact hlt), Array.getElem_modify_self, hk]
  rfl
theorem Box3.set1 (h : Box3 w B t v0 v1 v2) (v : Value) : Box3 (w.setCell ⟨B, 1, none⟩ v) B t v0 v v2 := by
  obtain ⟨hlt, hk⟩ := Array.getElem?_eq_some_iff.1 h
  show (w.heap.modify B _)[B]? = _
  rw [Array.getElem?_eq_getElem (by rw [Array.size_modify]; exact hlt), Array.getElem_modify_self, hk]
  rfl
theorem Box3.set2 (h : Box3 w B t v0 v1 v2) (v : Value) : Box3 (w.setCell ⟨B, 2, none⟩ v) B t v0 v1 v := by
  obtain ⟨hlt, hk⟩ := Array.getElem?_eq_some_iff.1 h
  show (w.heap.modify B _)[B]? = _
  rw [Array.getElem?_eq_getElem (by rw [Array.size_modify]; exact hlt), Array.getElem_modify_self, hk]
  rfl
end

/-- What is left of a text. -/
def rest (s : ByteArray) (p : Nat) : List UInt8 := (ls s).drop p
theorem rest_cons {s : ByteArray} {p : Nat} (h : p < s.size) : rest s p = s[p] :: rest s (p + 1) := by
  rw [rest, rest, List.drop_eq_getElem_cons (by rw [ls_len]; exact h), ls_get s p h]
theorem rest_nil {s : ByteArray} {p : Nat} (h : s.size ≤ p) : rest s p = [] := by rw [rest, List.drop_eq_nil_iff, ls_len]; exact h
theorem rest_len (s : ByteArray) (p : Nat) : (rest s p).length = s.size - p := by rw [rest, List.length_drop, ls_len]

/-! the reader's marks -/
set_option maxHeartbeats 400000 in
theorem is_hit (R : Nat) (s : ByteArray) (p : Nat) (b : Bool) (c : UInt8) (l : List UInt8) (h : skL c (rest s p) = some l) (hs : s.size ≤ 2000000) (w : World) (hR : RdS w R s p b) :
    Calls Tryd.prog 78 #[.pointer (some ⟨R, 0, none⟩), .int .u8 c.toNat] w fun x w' => x = .returned (.tuple #[]) ∧ RdS w' R s (p + 1) b ∧ w.grownBy w' (some R) := by
  have hp : p < s.size := by
    rcases Nat.lt_or_ge p s.size with h' | h'
    · exact h'
    · rw [rest_nil h'] at h; cases h
  have hc : (s[p].toNat : Int) = (c.toNat : Int) := by
    rw [rest_cons hp] at h
    simp only [skL] at h
    split at h
    · rename_i e; rw [e]
    · cases h
  have c0 := hR.c0
  have c1 := hR.c1
  have z1 := hR.z1
  have HR := Lib.hid hR
  have hpi : (p : Int) < (s.size : Int) := by omega
  have hsi : (s.size : Int) ≤ 2000000 := by omega
  have hcb : ((s[p].toNat : Int) == (c.toNat : Int)) = true := by simpa using hc
  clear hR h hc
  go_enter Tryd.func78, Tryd.ntmps78
  go_wp2
  go_quiet (fail)
  go_wp2
  go_end0
  exact ⟨rfl, RdS.setAt (w := w.drewN _) HR.out (p + 1), grown_drewNT _ (grown_setCell _ _ _ _)⟩
set_option maxHeartbeats 400000 in
theorem is_miss (R : Nat) (s : ByteArray) (p : Nat) (b : Bool) (c : UInt8) (h : skL c (rest s p) = none) (hs : s.size ≤ 2000000) (hps : p ≤ s.size) (w : World) (hR : RdS w R s p b) :
    Calls Tryd.prog 78 #[.pointer (some ⟨R, 0, none⟩), .int .u8 c.toNat] w fun x w' => x = .returned (.tuple #[]) ∧ RdS w' R s p true ∧ w.grownBy w' (some R) := by
  have c0 := hR.c0
  have c1 := hR.c1
  have z2 := hR.z2
  have hb := hR.c2
  have HR := Lib.hid hR
  have hsi : (s.size : Int) ≤ 2000000 := by omega
  by_cases hp : p < s.size
  · have hc : ((s[p].toNat : Int) == (c.toNat : Int)) = false := by
      rw [rest_cons hp] at h
      simp only [skL] at h
      split at h
      · cases h
      · rename_i e; simp; intro e2; exact e (UInt8.toNat_inj.1 (by omega))
    have hpi : (p : Int) < (s.size : Int) := by omega
    clear hR h
    go_enter Tryd.func78, Tryd.ntmps78
    go_wp2
    go_quiet (fail)
    go_wp2
    go_end0
    exact ⟨rfl, RdS.setBad (w := w.drewN _) HR.out true, grown_drewNT _ (grown_setCell _ _ _ _)⟩
  · have hpi : ¬ (p : Int) < (s.size : Int) := by omega
    clear hR h
    go_enter Tryd.func78, Tryd.ntmps78
    go_wp2
    go_quiet (fail)
    go_wp2
    go_end0
    exact ⟨rfl, RdS.setBad (w := w.drewN _) HR.out true, grown_drewNT _ (grown_setCell _ _ _ _)⟩
end Go.Proofs.YtndnbeijmhcepaaDoor

namespace Go.Proofs.YtndnbeijmhcepaaDoor
open Go.RowKit Go.Lib

theorem numTo_val (z : ByteArray) (i : Nat) (h : i ≤ z.size) : numTo z i = valL ((ls z).take i) := by
  induction i with
  | zero => simp [numTo, valL]
  | succ i ih =>
    have hi : i < z.size := by omega
    have hl : i < (ls z).length := by rw [ls_len]; exact hi
    rw [numTo, ih (by omega), List.take_succ_eq_append_getElem hl, ls_get z i hi, ← byteN_eq hi]
    simp [valL, List.foldl_append]
theorem digit_ls {z : ByteArray} (hd : ∀ c ∈ ls z, dgU c = true) (j : Nat) (h : j < z.size) : 48 ≤ z[j].toNat ∧ z[j].toNat ≤ 57 := by
  have := hd z[j] (by rw [← ls_get z j h]; exact List.getElem_mem _)
  simp [dgU] at this
  omega
set_option maxRecDepth 100000 in
set_option maxHeartbeats 400000 in
theorem num_empty (w : World) : Calls Tryd.prog 79 #[.string ByteArray.empty] w fun x w' => x = .returned (.tuple #[.int .i64 0, .bool false]) ∧ w' = w := by
  go_enter Tryd.func79, Tryd.ntmps79
  go_wp2_with fail
  go_ret2
  exact ⟨rfl, rfl⟩
set_option maxRecDepth 100000 in
set_option maxHeartbeats 400000 in
theorem num_zero (z : ByteArray) (h1 : 1 < z.size) (h3 : z.size ≤ 17) (h0 : z[0].toNat = 48) (w : World) : Calls Tryd.prog 79 #[.string z] w fun x w' => x = .returned (.tuple #[.int .i64 0, .bool false]) ∧ w' = w := by
  have h1i : (1 : Int) < (z.size : Int) := by omega
  have h3i : (z.size : Int) ≤ 17 := by omega
  have h0i : (z[0].toNat : Int) = 48 := by rw [h0]; rfl
  have hne : ¬ (z[0].toNat : Int) = 45 := by rw [h0]; decide
  have hb1 : ((z.size : Int) == 0) = false := beq_eq_false_iff_ne.2 (by omega)
  have hb2 : decide (17 < (z.size : Int)) = false := decide_eq_false (by omega)
  have hse : ¬ z = ByteArray.empty := by intro e; rw [e] at h1; simp at h1
  clear h0
  go_enter Tryd.func79, Tryd.ntmps79
  go_wp2_with fail
  go_ret2
  exact ⟨rfl, rfl⟩
def numV (d : List UInt8) : Int := if plainL d = true then ((valL d : Nat) : Int) else 0
theorem num_digits (z : ByteArray) (hd : ∀ c ∈ ls z, dgU c = true) (h3 : (ls z).length ≤ 3) (w : World) :
    Calls Tryd.prog 79 #[.string z] w fun x w' => x = .returned (.tuple #[.int .i64 (numV (ls z)), .bool (plainL (ls z))]) ∧ w' = w := by
  have hz : z.size ≤ 3 := by rw [← ls_len]; exact h3
  cases hl : ls z with
  | nil =>
    have h0 := toList_nil (ls_nil hl)
    have he : z = ByteArray.empty := ls_ext (by rw [hl]; rfl)
    subst he
    refine (num_empty w).mono ?_
    rintro x w' ⟨rfl, hw⟩
    exact ⟨rfl, hw⟩
  | cons a r =>
    obtain ⟨h0, ha, hr⟩ := ls_cons hl
    have hra : (ls z).length = r.length + 1 := by rw [hl]; rfl
    rw [ls_len] at hra
    by_cases hp : a = 48 ∧ r ≠ []
    · have hr1 : 1 < z.size := by
        have := List.length_pos_iff.2 hp.2
        omega
      refine (num_zero z hr1 (by omega) (by rw [ha, hp.1]; rfl) w).mono ?_
      rintro x w' ⟨rfl, hw⟩
      have hpl : plainL (a :: r) = false := by simp [plainL, hp.1, hp.2]
      rw [numV, hpl]
      exact ⟨rfl, hw⟩
    · have hpl : plainL (a :: r) = true := by
        simp only [plainL, Bool.or_eq_true, Bool.not_eq_true', beq_eq_false_iff_ne, List.isEmpty_iff]
        by_cases h : a = 48
        · exact .inr (Decidable.of_not_not fun h2 => hp ⟨h, h2⟩)
        · exact .inl h
      refine (num_plain z ⟨h0, by omega, fun j h => digit_ls hd j h, fun _ h48 => ?_⟩ w).mono ?_
      · have h4 : a = 48 := by rw [← ha]; exact UInt8.toNat_inj.1 h48
        have h5 : r = [] := Decidable.of_not_not fun h2 => hp ⟨h4, h2⟩
        rw [h5] at hra
        simpa using hra
      · rintro x w' ⟨rfl, hw⟩
        refine ⟨?_, hw⟩
        rw [numV, if_pos hpl, hpl, numTo_val z z.size (Nat.le_refl _), List.take_of_length_le (by rw [ls_len]; exact Nat.le_refl _), hl]

/-! the digits ahead, three at most -/
theorem ds_lt (s : ByteArray) (b k : Nat) (h : k < (dsL (rest s b)).length) : k < 3 ∧ ∃ h' : b + k < s.size, dgU s[b + k] = true := by
  have hk : k < ((rest s b).takeWhile dgU).length ∧ k < 3 := by simp [dsL] at h; omega
  obtain ⟨h1, h2⟩ := (tw_len (rest s b)).1 k hk.1
  have h3 : b + k < s.size := by rw [rest_len] at h1; omega
  refine ⟨hk.2, h3, ?_⟩
  have e : (rest s b)[k] = s[b + k] := by
    rw [← ls_get s (b + k) h3]
    simp [rest]
  rw [← e]
  exact h2
theorem ds_end (s : ByteArray) (b : Nat) (h : b + (dsL (rest s b)).length < s.size) (h3 : (dsL (rest s b)).length < 3) : dgU s[b + (dsL (rest s b)).length] = false := by
  have e : (dsL (rest s b)).length = ((rest s b).takeWhile dgU).length := by simp [dsL] at h3 ⊢; omega
  have h2 := (tw_len (rest s b)).2.1 (by rw [rest_len, ← e]; omega)
  have e2 : (rest s b)[((rest s b).takeWhile dgU).length]'(by rw [rest_len, ← e]; omega) = s[b + (dsL (rest s b)).length] := by
    rw [← ls_get s _ h]
    simp only [rest, List.getElem_drop]
    congr 1
    exact congrArg (b + ·) e.symm
  rw [← e2]
  exact h2
theorem ds_cut (s : ByteArray) (b : Nat) : ls (s.extract b (b + (dsL (rest s b)).length)) = dsL (rest s b) := by
  have h := dsL_prefix (rest s b)
  rw [ls_extract, List.drop_take, show b + (dsL (rest s b)).length - b = (dsL (rest s b)).length by omega]
  exact (List.prefix_iff_eq_take.1 ⟨_, h.symm⟩).symm
end Go.Proofs.YtndnbeijmhcepaaDoor

namespace Go.Proofs.YtndnbeijmhcepaaDoor
open Go.RowKit Go.Lib

/-- A node of the model that holds a tree: its three fields. -/
def NodeIs (base : Nat) (w : World) : TreeD → ByteArray → Int → Value → Prop
  | .leaf c, tg, _, sd => tg = ⟨#[c]⟩ ∧ ∃ a cap, sd = .slice a 0 cap
  | .cmp k l r, _, k', sd => k' = k ∧ ∃ (B cap : Nat) (tl : ByteArray) (kl : Int) (sl : Value) (tr : ByteArray) (kr : Int) (sr : Value), sd = .slice (some ⟨B, 0, none⟩) 2 cap ∧ base ≤ B ∧ B < w.heap.size ∧
      (w.cell? ⟨B, 0, none⟩ = some (.string tl) ∧ w.cell? ⟨B, 1, none⟩ = some (.int .i64 kl) ∧ w.cell? ⟨B, 2, none⟩ = some sl ∧ w.cell? ⟨B, 3, none⟩ = some (.string tr) ∧ w.cell? ⟨B, 4, none⟩ = some (.int .i64 kr) ∧ w.cell? ⟨B, 5, none⟩ = some sr) ∧ NodeIs base w l tl kl sl ∧ NodeIs base w r tr kr sr
theorem NodeIs.kept {base : Nat} {w w' : World} {row : Option Nat} (hg : w.grownBy w' row) (hr : ∀ q, row = some q → q < base) : ∀ {t : TreeD} {tg : ByteArray} {k : Int} {sd : Value}, NodeIs base w t tg k sd → NodeIs base w' t tg k sd
  | .leaf _, _, _, _, h => h
  | .cmp _ _ _, _, _, _, ⟨e, B, cap, tl, kl, sl, tr, kr, sr, e2, hB, hlt, ⟨h0, h1, h2, h3, h4, h5⟩, hl, hr2⟩ => by
    have hne : some B ≠ row := fun e => absurd (hr B e.symm) (by omega)
    exact ⟨e, B, cap, tl, kl, sl, tr, kr, sr, e2, hB, Nat.lt_of_lt_of_le hlt hg.size, ⟨hg.cell h0 hne, hg.cell h1 hne, hg.cell h2 hne, hg.cell h3 hne, hg.cell h4 hne, hg.cell h5 hne⟩, hl.kept hg hr, hr2.kept hg hr⟩
theorem cell_of {w w' : World} {B o : Nat} {v : Value} (h : w'.heap[B]? = w.heap[B]?) (hc : w.cell? ⟨B, o, none⟩ = some v) : w'.cell? ⟨B, o, none⟩ = some v := (World.cell?_of_block (a := ⟨B, o, none⟩) h).trans hc
/-- Whatever keeps the blocks from base on that were there keeps the node. -/
theorem NodeIs.keptLt {base : Nat} {w w' : World} (hs : w.heap.size ≤ w'.heap.size) (hb : ∀ k, base ≤ k → k < w.heap.size → w'.heap[k]? = w.heap[k]?) : ∀ {t : TreeD} {tg : ByteArray} {k : Int} {sd : Value}, NodeIs base w t tg k sd → NodeIs base w' t tg k sd
  | .leaf _, _, _, _, h => h
  | .cmp _ _ _, _, _, _, ⟨e, B, cap, tl, kl, sl, tr, kr, sr, e2, hB, hlt, ⟨h0, h1, h2, h3, h4, h5⟩, hl, hr2⟩ => by
    have hk := hb B hB hlt
    exact ⟨e, B, cap, tl, kl, sl, tr, kr, sr, e2, hB, Nat.lt_of_lt_of_le hlt hs, ⟨cell_of hk h0, cell_of hk h1, cell_of hk h2, cell_of hk h3, cell_of hk h4, cell_of hk h5⟩, hl.keptLt hs hb, hr2.keptLt hs hb⟩
theorem NodeIs.base {b b' : Nat} (hb : b' ≤ b) {w : World} : ∀ {t : TreeD} {tg : ByteArray} {k : Int} {sd : Value}, NodeIs b w t tg k sd → NodeIs b' w t tg k sd
  | .leaf _, _, _, _, h => h
  | .cmp _ _ _, _, _, _, ⟨e, B, cap, tl, kl, sl, tr, kr, sr, e2, hB, hlt, hc, hl, hr⟩ => ⟨e, B, cap, tl, kl, sl, tr, kr, sr, e2, by omega, hlt, hc, hl.base hb, hr.base hb⟩
theorem NodeIs.slice {b : Nat} {w : World} {t : TreeD} {tg : ByteArray} {k : Int} {sd : Value} (h : NodeIs b w t tg k sd) : ∃ a n cap, sd = .slice a n cap := by
  cases t with
  | leaf c => obtain ⟨_, a, cap, e⟩ := h; exact ⟨_, _, _, e⟩
  | cmp k l r => obtain ⟨_, B, cap, _, _, _, _, _, _, e, _⟩ := h; exact ⟨_, _, _, e⟩

theorem grown_set_new {w W : World} {row : Option Nat} {b : Nat} (h : w.grownBy W row) (hb : w.heap.size ≤ b) (o : Nat) (v : Value) : w.grownBy (W.setCell ⟨b, o, none⟩ v) row := by
  have g := grown_setCell W b o v
  exact ⟨g.os.trans h.os, g.tape.trans h.tape, g.output.trans h.output, Nat.le_trans h.size g.size, fun k hk hne => (g.block k (Nat.lt_of_lt_of_le hk h.size) (by simp; omega)).trans (h.block k hk hne)⟩
theorem grown_set_row {w W : World} {R : Nat} (h : w.grownBy W (some R)) (o : Nat) (v : Value) : w.grownBy (W.setCell ⟨R, o, none⟩ v) (some R) := h.trans (grown_setCell W R o v)
theorem grown_alloc {w W : World} {row : Option Nat} (h : w.grownBy W row) (o : Obj) : w.grownBy (W.alloc o) row := h.trans (World.grownBy_alloc W o row)
theorem grown_drewNT' {w W : World} {row : Option Nat} (h : w.grownBy W row) (n : Nat) : w.grownBy (W.drewN n) row := ⟨h.os, h.tape, h.output, h.size, h.block⟩
theorem RdS.setOther {w : World} {R p : Nat} {s : ByteArray} {b : Bool} (h : RdS w R s p b) {k : Nat} (hk : R ≠ k) (o : Nat) (v : Value) : RdS (w.setCell ⟨k, o, none⟩ v) R s p b := h.kept (grown_setCell w k o v) (by intro e; cases e; exact hk rfl)
theorem RdS.drawn {w : World} {R p : Nat} {s : ByteArray} {b : Bool} (h : RdS w R s p b) (n : Nat) : RdS (w.drewN n) R s p b := h
theorem RdS.alloc {w : World} {R p : Nat} {s : ByteArray} {b : Bool} (h : RdS w R s p b) (o : Obj) : RdS (w.alloc o) R s p b := h.kept (World.grownBy_alloc w o none) (by simp)

/-- What the reader of a node leaves: a node, how much is read, whether it is bad. -/
def NodeOut (R : Nat) (s : ByteArray) (p : Nat) (b : Bool) (o : Option (TreeD × List UInt8)) (w : World) (x : Ending) (w' : World) : Prop :=
  (∃ (t : TreeD) (tg : ByteArray) (k : Int) (sd : Value) (q : Nat) (d : Bool), x = .returned (.agg #[.string tg, .int .i64 k, sd]) ∧ NodeIs w.heap.size w' t tg k sd ∧ RdS w' R s q d ∧ p ≤ q ∧ q ≤ s.size ∧ d = (b || o.isNone) ∧ (d = false → o = some (t, rest s q))) ∧ w.grownBy w' (some R)
def NodeC (f : Nat) : Prop := ∀ (R : Nat) (s : ByteArray) (p : Nat) (b : Bool) (w : World), RdS w R s p b → p ≤ s.size → s.size ≤ 2000000 → (b = false → s.size - p < f) →
  Calls Tryd.prog 62 #[.pointer (some ⟨R, 0, none⟩)] w (NodeOut R s p b (rdG nmL f (rest s p)) w)

set_option maxRecDepth 100000 in
set_option maxHeartbeats 1000000 in
theorem node_end (R : Nat) (s : ByteArray) (p : Nat) (b : Bool) (o : Option (TreeD × List UInt8)) (w : World) (hR : RdS w R s p b) (hp : p ≤ s.size) (hs : s.size ≤ 2000000) (h : b = true ∨ (b = false ∧ s.size ≤ p ∧ o = none)) :
    Calls Tryd.prog 62 #[.pointer (some ⟨R, 0, none⟩)] w (NodeOut R s p b o w) := by
  obtain ⟨wa, hwa⟩ : ∃ wa, wa = w.alloc (.cells #[.string ⟨#[]⟩, .int .i64 0, .slice none 0 0] 59) := ⟨_, rfl⟩
  have hRa : RdS wa R s p b := by rw [hwa]; exact hR.kept (World.grownBy_alloc _ _ none) (by simp)
  have ga : w.grownBy wa (some R) := by rw [hwa]; exact World.grownBy_alloc _ _ _
  have c0 := hRa.c0
  have c1 := hRa.c1
  have c2 := hRa.c2
  have z2 := hRa.z2
  have hX : Box3 wa w.heap.size 59 (.string ⟨#[]⟩) (.int .i64 0) (.slice none 0 0) := by rw [hwa]; exact Box3.new _ _ _ _ _
  have e0 := hX.c0
  have e1 := hX.c1
  have e2 := hX.c2
  have d0 := hX.z 0
  have d1 := hX.z 1
  have d2 := hX.z 2
  have HX := Lib.hid hX
  clear hX
  have hzz : w.heap.size < wa.heap.size := by rw [hwa]; simp
  have hRz : ¬ R = w.heap.size := by have := hR.lt; omega
  have HR := Lib.hid hRa
  have HGA := Lib.hid ga
  have HWA := Lib.hid hwa
  have HNO := Lib.hid (show ∀ x w', (∃ (t : TreeD) (tg : ByteArray) (k : Int) (sd : Value), x = .returned (.agg #[.string tg, .int .i64 k, sd]) ∧ NodeIs w.heap.size w' t tg k sd) ∧ RdS w' R s p true ∧ w.grownBy w' (some R) → NodeOut R s p b o w x w' from fun x w' ⟨⟨t, tg, k, sd, h1, h2⟩, h3, h4⟩ => by
    refine ⟨⟨t, tg, k, sd, p, true, h1, h2, h3, Nat.le_refl _, hp, ?_, fun e => by cases e⟩, h4⟩
    rcases h with h | ⟨_, _, h⟩
    · simp [h]
    · simp [h])
  obtain ⟨P, hP⟩ : ∃ P, P = NodeOut R s p b o w := ⟨_, rfl⟩
  rw [← hP] at HNO ⊢
  clear hP hwa hR hRa ga
  rcases h with rfl | ⟨rfl, hps, rfl⟩
  · go_enter Tryd.func62, Tryd.ntmps62
    go_wp2_with fail
    rw [← HWA.out]
    go_quiet (fail)
    go_wp2
    have HY := (((((HX.out.drawn nq).setOther (Ne.symm hRz) 2 (.bool true)).set0 (.string ⟨#[122]⟩)).set1 (.int .i64 0)).set2 (.slice (some ⟨wa.heap.size, 0, none⟩) 0 0)).alloc (.cells #[] 59)
    refine bodyPost_ret (v := .agg #[.string ⟨#[122]⟩, .int .i64 0, .slice (some ⟨wa.heap.size, 0, none⟩) 0 0]) (by simp [results, Tryd.results62, go_sem, HY.c0, HY.c1, HY.c2]) rfl ?_
    exact HNO.out _ _ ⟨⟨.leaf 122, ⟨#[122]⟩, 0, _, rfl, rfl, _, _, rfl⟩, (((((HR.out.drawn _).setBad true).setOther hRz _ _).setOther hRz _ _).setOther hRz _ _).alloc _,
      grown_alloc (grown_set_new (grown_set_new (grown_set_new (grown_set_row (grown_drewNT' HGA.out _) _ _) (Nat.le_refl _) _ _) (Nat.le_refl _) _ _) (Nat.le_refl _) _ _) _⟩
  · have hpi : (s.size : Int) ≤ (p : Int) := by omega
    go_enter Tryd.func62, Tryd.ntmps62
    go_wp2_with fail
    rw [← HWA.out]
    go_quiet (fail)
    go_wp2
    have HY := (((((HX.out.drawn nq).setOther (Ne.symm hRz) 2 (.bool true)).set0 (.string ⟨#[122]⟩)).set1 (.int .i64 0)).set2 (.slice (some ⟨wa.heap.size, 0, none⟩) 0 0)).alloc (.cells #[] 59)
    refine bodyPost_ret (v := .agg #[.string ⟨#[122]⟩, .int .i64 0, .slice (some ⟨wa.heap.size, 0, none⟩) 0 0]) (by simp [results, Tryd.results62, go_sem, HY.c0, HY.c1, HY.c2]) rfl ?_
    exact HNO.out _ _ ⟨⟨.leaf 122, ⟨#[122]⟩, 0, _, rfl, rfl, _, _, rfl⟩, (((((HR.out.drawn _).setBad true).setOther hRz _ _).setOther hRz _ _).setOther hRz _ _).alloc _,
      grown_alloc (grown_set_new (grown_set_new (grown_set_new (grown_set_row (grown_drewNT' HGA.out _) _ _) (Nat.le_refl _) _ _) (Nat.le_refl _) _ _) (Nat.le_refl _) _ _) _⟩

set_option maxRecDepth 100000 in
set_option maxHeartbeats 1000000 in
theorem node_leaf (R : Nat) (s : ByteArray) (p f : Nat) (w : World) (hR : RdS w R s p false) (hp : p < s.size) (hs : s.size ≤ 2000000) (ht : tgU s[p] = true) :
    Calls Tryd.prog 62 #[.pointer (some ⟨R, 0, none⟩)] w (NodeOut R s p false (rdG nmL (f + 1) (rest s p)) w) := by
  obtain ⟨wa, hwa⟩ : ∃ wa, wa = w.alloc (.cells #[.string ⟨#[]⟩, .int .i64 0, .slice none 0 0] 59) := ⟨_, rfl⟩
  have hRa : RdS wa R s p false := by rw [hwa]; exact hR.kept (World.grownBy_alloc _ _ none) (by simp)
  have ga : w.grownBy wa (some R) := by rw [hwa]; exact World.grownBy_alloc _ _ _
  have c0 := hRa.c0
  have c1 := hRa.c1
  have c2 := hRa.c2
  have z1 := hRa.z1
  have hX : Box3 wa w.heap.size 59 (.string ⟨#[]⟩) (.int .i64 0) (.slice none 0 0) := by rw [hwa]; exact Box3.new _ _ _ _ _
  have e0 := hX.c0
  have e1 := hX.c1
  have e2 := hX.c2
  have d0 := hX.z 0
  have d1 := hX.z 1
  have d2 := hX.z 2
  have HX := Lib.hid hX
  clear hX
  have hzz : w.heap.size < wa.heap.size := by rw [hwa]; simp
  have hRz : ¬ R = w.heap.size := by have := hR.lt; omega
  have HR := Lib.hid hRa
  have HGA := Lib.hid ga
  have HWA := Lib.hid hwa
  have hn40 : ¬ s[p] = 40 := fun e => by rw [e] at ht; revert ht; decide
  have ho : rdG nmL (f + 1) (rest s p) = some (.leaf s[p], rest s (p + 1)) := by
    rw [rest_cons hp]; simp only [rdG, if_neg hn40, if_pos ht]
  rw [ho]
  have HNO := Lib.hid (show ∀ x w', (∃ (tg : ByteArray) (k : Int) (sd : Value), x = .returned (.agg #[.string tg, .int .i64 k, sd]) ∧ NodeIs w.heap.size w' (.leaf s[p]) tg k sd) ∧ RdS w' R s (p + 1) false ∧ w.grownBy w' (some R) → NodeOut R s p false (some (.leaf s[p], rest s (p + 1))) w x w' from fun x w' ⟨⟨tg, k, sd, h1, h2⟩, h3, h4⟩ =>
    ⟨⟨_, tg, k, sd, p + 1, false, h1, h2, h3, by omega, by omega, rfl, fun _ => rfl⟩, h4⟩)
  obtain ⟨P, hP⟩ : ∃ P, P = NodeOut R s p false (some (.leaf s[p], rest s (p + 1))) w := ⟨_, rfl⟩
  rw [← hP] at HNO ⊢
  have hpi : (p : Int) < (s.size : Int) := by omega
  have hti : (inB (s[p].toNat : Int) 97 104 = true) ∨ (inB (s[p].toNat : Int) 97 104 = false ∧ ((s[p].toNat : Int) == 122) = true) := by
    simp only [tgU, Bool.or_eq_true, Bool.and_eq_true, decide_eq_true_eq] at ht
    rcases ht with h | h
    · left; simp [inB]; omega
    · right; simp [inB]; omega
  have hconv : ∀ (z : Int) (n : Nat) (v : Value), Sem.run Tryd.prog (convert 83 9 (.slice (some ⟨wa.heap.size, 0, none⟩) 1 1)) (((wa.drewN n).setCell ⟨R, 1, none⟩ v).alloc (.cells #[.int .u8 z] 5)) = .ok (.string ⟨#[UInt8.ofNat z.toNat]⟩) (((wa.drewN n).setCell ⟨R, 1, none⟩ v).alloc (.cells #[.int .u8 z] 5)) := fun z n v => by
    have := byte_string z ((wa.drewN n).setCell ⟨R, 1, none⟩ v)
    rw [show ((wa.drewN n).setCell ⟨R, 1, none⟩ v).heap.size = wa.heap.size by simp] at this
    exact this
  have hb : (s[p].toNat : Int) ≤ 255 := by have := s[p].toNat_lt; omega
  clear hP hwa hR hRa ga ho ht hn40
  rcases hti with h1 | ⟨h1, h2⟩
  all_goals
    go_enter Tryd.func62, Tryd.ntmps62
    go_wp2_with fail
    rw [← HWA.out]
    go_quiet (fail)
    obtain ⟨n1, hn1⟩ : ∃ n1, n1 = nq := ⟨nq, rfl⟩
    rw [← hn1]
    clear hn1
    go_wp2_with fail
    go_quiet (fail)
    go_wp2_with (go_at_call 57; refine (l1In_any _ _ _ _).mono ?_; rintro e w' ⟨rfl, rfl⟩)
    have HY := ((((((HX.out.drawn (n1 + nq)).setOther (Ne.symm hRz) 1 (.int .i64 ((p : Int) + 1))).set0 (.string ⟨#[s[p]]⟩)).set1 (.int .i64 0)).set2 (.slice (some ⟨wa.heap.size + 1, 0, none⟩) 0 0)).alloc (.cells #[.int .u8 s[p].toNat] 5)).alloc (.cells #[] 59)
    refine bodyPost_ret (v := .agg #[.string ⟨#[s[p]]⟩, .int .i64 0, .slice (some ⟨wa.heap.size + 1, 0, none⟩) 0 0]) (by simp [results, Tryd.results62, go_sem, HY.c0, HY.c1, HY.c2]) rfl ?_
    exact HNO.out _ _ ⟨⟨_, _, _, rfl, rfl, _, _, rfl⟩, ((((((HR.out.drawn (n1 + nq)).setAt (p + 1)).setOther hRz _ _).setOther hRz _ _).setOther hRz _ _).alloc _).alloc _,
      grown_alloc (grown_alloc (grown_set_new (grown_set_new (grown_set_new (grown_set_row (grown_drewNT' HGA.out _) _ _) (Nat.le_refl _) _ _) (Nat.le_refl _) _ _) (Nat.le_refl _) _ _) _) _⟩
end Go.Proofs.YtndnbeijmhcepaaDoor

namespace Go.Proofs.YtndnbeijmhcepaaDoor
open Go.RowKit Go.Lib

/-- What reading one byte leaves. -/
def IsRel (s : ByteArray) (c : UInt8) (p : Nat) (b : Bool) (q : Nat) (d : Bool) : Prop :=
  (skL c (rest s p) = some (rest s (p + 1)) ∧ q = p + 1 ∧ d = b ∧ p < s.size) ∨ (skL c (rest s p) = none ∧ q = p ∧ d = true)
theorem IsRel.le {s : ByteArray} {c : UInt8} {p q : Nat} {b d : Bool} (h : IsRel s c p b q d) (hp : p ≤ s.size) : p ≤ q ∧ q ≤ s.size := by
  rcases h with ⟨_, rfl, _, h⟩ | ⟨_, rfl, _⟩
  · omega
  · omega
theorem is_any (R : Nat) (s : ByteArray) (p : Nat) (b : Bool) (c : UInt8) (hs : s.size ≤ 2000000) (hps : p ≤ s.size) (w : World) (hR : RdS w R s p b) :
    Calls Tryd.prog 78 #[.pointer (some ⟨R, 0, none⟩), .int .u8 c.toNat] w fun x w' => x = .returned (.tuple #[]) ∧ (∃ q d, RdS w' R s q d ∧ IsRel s c p b q d) ∧ w.grownBy w' (some R) := by
  cases h : skL c (rest s p) with
  | none =>
    refine (is_miss R s p b c h hs hps w hR).mono ?_
    rintro x w' ⟨rfl, h1, h2⟩
    exact ⟨rfl, ⟨p, true, h1, .inr ⟨h, rfl, rfl⟩⟩, h2⟩
  | some l =>
    have hp : p < s.size := by
      rcases Nat.lt_or_ge p s.size with h' | h'
      · exact h'
      · rw [rest_nil h'] at h; cases h
    have hl : l = rest s (p + 1) := by
      have := skL_some h
      rw [rest_cons hp] at this
      exact (List.cons.inj this).2.symm
    refine (is_hit R s p b c l h hs w hR).mono ?_
    rintro x w' ⟨rfl, h1, h2⟩
    exact ⟨rfl, ⟨p + 1, b, h1, .inl ⟨by rw [h, hl], rfl, rfl, hp⟩⟩, h2⟩

/-- How a comparison's reading is put together out of its parts'. -/
theorem node_sum (s : ByteArray) (p f : Nat) (p1 p3 p4 p5 p6 : Nat) (b1 b2 b3 b4 b5 b6 : Bool) (n : Int) (t1 t2 : TreeD) (hp : p < s.size) (ht : tgU s[p] = false)
    (h1 : IsRel s 40 p false p1 b1) (h2 : b2 = (b1 || !okD (dsL (rest s p1)))) (hn : okD (dsL (rest s p1)) = true → n = (valL (dsL (rest s p1)) : Nat))
    (o1 : Option (TreeD × List UInt8)) (ho1 : o1 = rdG nmL f (rest s (p1 + (dsL (rest s p1)).length))) (h3 : b3 = (b2 || o1.isNone)) (e3 : b3 = false → o1 = some (t1, rest s p3))
    (h4 : IsRel s 44 p3 b3 p4 b4) (o2 : Option (TreeD × List UInt8)) (ho2 : o2 = rdG nmL f (rest s p4)) (h5 : b5 = (b4 || o2.isNone)) (e5 : b5 = false → o2 = some (t2, rest s p5)) (h6 : IsRel s 41 p5 b5 p6 b6) :
    b6 = (false || (rdG nmL (f + 1) (rest s p)).isNone) ∧ (b6 = false → rdG nmL (f + 1) (rest s p) = some (.cmp n t1 t2, rest s p6)) := by
  have hgoal : (b6 = false ∧ rdG nmL (f + 1) (rest s p) = some (.cmp n t1 t2, rest s p6)) ∨ (b6 = true ∧ rdG nmL (f + 1) (rest s p) = none) := by
    rcases h1 with ⟨k1, rfl, rfl, _⟩ | ⟨k1, rfl, rfl⟩
    · have e0 : rest s p = 40 :: rest s (p + 1) := skL_some k1
      rw [e0]
      simp only [rdG, if_true]
      have hnm : nmL (rest s (p + 1)) = if okD (dsL (rest s (p + 1))) = true then some (((valL (dsL (rest s (p + 1))) : Nat) : Int), rest s (p + 1 + (dsL (rest s (p + 1))).length)) else none := by
        unfold nmL; split
        · simp only [rest, List.drop_drop]
        · rfl
      cases hok : okD (dsL (rest s (p + 1))) with
      | false =>
        rw [hnm, hok]
        rw [hok] at h2
        have d2 : b2 = true := by simp [h2]
        have d3 : b3 = true := by simp [h3, d2]
        have d4 : b4 = true := by rcases h4 with ⟨_, _, h, _⟩ | ⟨_, _, h⟩ <;> simp [h, d3]
        have d5 : b5 = true := by simp [h5, d4]
        have d6 : b6 = true := by rcases h6 with ⟨_, _, h, _⟩ | ⟨_, _, h⟩ <;> simp [h, d5]
        exact .inr ⟨d6, rfl⟩
      | true =>
        rw [hnm, hok]
        simp only [if_true]
        rw [hok] at h2
        have d2 : b2 = false := by simp [h2]
        cases hb3 : b3 with
        | true =>
          have d4 : b4 = true := by rcases h4 with ⟨_, _, h, _⟩ | ⟨_, _, h⟩ <;> simp [h, hb3]
          have d5 : b5 = true := by simp [h5, d4]
          have d6 : b6 = true := by rcases h6 with ⟨_, _, h, _⟩ | ⟨_, _, h⟩ <;> simp [h, d5]
          have : o1 = none := by rw [hb3, d2] at h3; simpa using h3.symm
          rw [← ho1, this]
          exact .inr ⟨d6, rfl⟩
        | false =>
          rw [← ho1, e3 hb3]
          simp only
          rcases h4 with ⟨k4, rfl, h4, _⟩ | ⟨k4, rfl, h4⟩
          · rw [k4]
            simp only
            rw [hb3] at h4
            rw [h4] at h5
            cases hb5 : b5 with
            | true =>
              have d6 : b6 = true := by rcases h6 with ⟨_, _, h, _⟩ | ⟨_, _, h⟩ <;> simp [h, hb5]
              have : o2 = none := by rw [hb5] at h5; simpa using h5.symm
              rw [← ho2, this]
              exact .inr ⟨d6, rfl⟩
            | false =>
              rw [← ho2, e5 hb5]
              simp only
              rcases h6 with ⟨k6, rfl, h6, _⟩ | ⟨k6, rfl, h6⟩
              · rw [k6, hn hok]
                exact .inl ⟨h6.trans hb5, rfl⟩
              · rw [k6]
                exact .inr ⟨h6, rfl⟩
          · rw [k4]
            have d5 : b5 = true := by simp [h5, h4]
            have d6 : b6 = true := by rcases h6 with ⟨_, _, h, _⟩ | ⟨_, _, h⟩ <;> simp [h, d5]
            exact .inr ⟨d6, rfl⟩
    · have e0 := rest_cons hp
      have hne : ¬ s[p1] = 40 := fun e => by rw [e0, e, skL_hit] at k1; cases k1
      rw [e0]
      simp only [rdG, if_neg hne, ht, Bool.false_eq_true, if_false]
      have d2 : b2 = true := by simp [h2]
      have d3 : b3 = true := by simp [h3, d2]
      have d4 : b4 = true := by rcases h4 with ⟨_, _, h, _⟩ | ⟨_, _, h⟩ <;> simp [h, d3]
      have d5 : b5 = true := by simp [h5, d4]
      have d6 : b6 = true := by rcases h6 with ⟨_, _, h, _⟩ | ⟨_, _, h⟩ <;> simp [h, d5]
      exact .inr ⟨d6, trivial⟩
  rcases hgoal with ⟨h, e⟩ | ⟨h, e⟩
  · rw [e]; exact ⟨by simpa using h, fun _ => rfl⟩
  · rw [e]; exact ⟨by simpa using h, fun h' => by rw [h] at h'; cases h'⟩
end Go.Proofs.YtndnbeijmhcepaaDoor
