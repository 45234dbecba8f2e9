
/- The laws' marks: markText; markCaseS writes them into a slice, heldCaseS finds them there. -/
import Derived.Test.YtjpcpiffffobcaaGreatDoorKsFlow
import Derived.Test.YtjpcpiffffobcaaGreatDoorKsQuiet
namespace Go.Proofs.YtjpcpiffffobcaaGreatDoor
open Go.RowKit Go.Shelf Go.Lib Go.Sort

def decR (k : Nat) : ByteArray := if k = 0 then ⟨#[]⟩ else decR (k / 10) ++ ⟨#[UInt8.ofNat (48 + k % 10)]⟩
termination_by k
decreasing_by omega
theorem decR_zero : decR 0 = ⟨#[]⟩ := by rw [decR, if_pos rfl]
theorem decR_pos {k : Nat} (h : 0 < k) : decR k = decR (k / 10) ++ ⟨#[UInt8.ofNat (48 + k % 10)]⟩ := by rw [decR, if_neg (by omega)]
def markS (k : Int) : ByteArray := ⟨#[109]⟩ ++ decR k.toNat
theorem byteS (z : Int) (W : World) : Sem.run Tryz.prog (convert 39 9 (.slice (some ⟨W.heap.size, 0, none⟩) 1 1)) (W.alloc (.cells #[.int .u8 z] 5)) = .ok (.string ⟨#[UInt8.ofNat z.toNat]⟩) (W.alloc (.cells #[.int .u8 z] 5)) := by
  rw [run_convert_bytes_string _ _ _ _ _ _ _ Tryz.underlying39 Tryz.underlying5 Tryz.underlying9, run_bytesToString _ _ _ _ [z] (by go_simp)]
  rfl
theorem retT {a c : ByteArray} (h : a = c) : Ending.returned (.string a) = .returned (.string c) := by rw [h]

/-! cells that are marked one behind the other -/
def markV (k : Nat) (t : Nat) : Value := if t % 4 = 2 then .string (markS ((k + t : Nat) : Int)) else .int .i64 ((k + t : Nat) : Int)
structure HotM (W : World) (g N k m : Nat) : Prop where
  lt : g < W.heap.size
  has : ∀ t, t < N → ∃ u, W.cell? ⟨g, t, none⟩ = some u
  cold : ∀ t, t < N → W.frozen? ⟨g, t, none⟩ = false
  marked : ∀ t, t < m → W.cell? ⟨g, t, none⟩ = some (markV k t)
theorem HotM.below {W W' : World} {g N k m : Nat} (h : HotM W g N k m) (hb : RowKit.Below W.heap.size W W') : HotM W' g N k m :=
  ⟨Nat.lt_of_lt_of_le h.lt hb.size, fun t ht => by obtain ⟨u, hu⟩ := h.has t ht; exact ⟨u, (hb.cell (p := ⟨g, t, none⟩) h.lt).trans hu⟩, fun t ht => (hb.frozen (p := ⟨g, t, none⟩) h.lt).trans (h.cold t ht),
    fun t ht => (hb.cell (p := ⟨g, t, none⟩) h.lt).trans (h.marked t ht)⟩
theorem HotM.set {W : World} {g N k m : Nat} (h : HotM W g N k m) (hm : m < N) : HotM (W.setCell ⟨g, m, none⟩ (markV k m)) g N k (m + 1) := by
  refine ⟨by rw [World.size_setCell]; exact h.lt, fun t ht => ?_, fun t ht => by rw [World.frozen?_setCell]; exact h.cold t ht, fun t ht => ?_⟩
  · by_cases e : t = m
    · subst e
      obtain ⟨u, hu⟩ := h.has t ht
      exact ⟨_, World.cell?_setCell_same _ _ _ hu⟩
    · obtain ⟨u, hu⟩ := h.has t ht
      exact ⟨u, (World.cell?_setCell_other _ _ _ _ (fun q => e (by cases q; rfl))).trans hu⟩
  · by_cases e : t = m
    · subst e
      obtain ⟨u, hu⟩ := h.has t hm
      exact World.cell?_setCell_same _ _ _ hu
    · exact (World.cell?_setCell_other _ _ _ _ (fun q => e (by cases q; rfl))).trans (h.marked t (by omega))
theorem grown_trans {A B C : World} {row : Option Nat} (h : A.grownBy B row) (k : B.grownBy C row) : A.grownBy C row :=
  ⟨k.os.trans h.os, k.tape.trans h.tape, k.output.trans h.output, Nat.le_trans h.size k.size, fun j hj hne => (k.block j (Nat.lt_of_lt_of_le hj h.size) hne).trans (h.block j hj hne)⟩
theorem grown_set (W : World) (g o : Nat) (v : Value) : W.grownBy (W.setCell ⟨g, o, none⟩ v) (some g) :=
  ⟨rfl, rfl, rfl, by rw [World.size_setCell]; exact Nat.le_refl _, fun k _ hk => Below.heap_setCell _ _ _ k (fun e => hk (by rw [e]))⟩
theorem grown_any {W W' : World} (h : RowKit.Below W.heap.size W W') (row : Option Nat) : W.grownBy W' row := ⟨h.os, h.tape, h.output, h.size, fun k hk _ => h.block k hk⟩
theorem grown_refl (W : World) (row : Option Nat) : W.grownBy W row := ⟨rfl, rfl, rfl, Nat.le_refl _, fun _ _ _ => rfl⟩

end Go.Proofs.YtjpcpiffffobcaaGreatDoor
