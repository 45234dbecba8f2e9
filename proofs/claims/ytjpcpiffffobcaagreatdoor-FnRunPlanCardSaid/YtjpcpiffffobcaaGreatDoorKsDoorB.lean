
/- From an argument of bytes to what the draws ask of it; the listed variable; the world of the witness. -/
import Derived.Test.YtjpcpiffffobcaaGreatDoorKsDrawB
import Derived.ProofKit
import Derived.LaidMore
import Derived.OpenShut
import Derived.Stop.Joined
import Derived.Stop.LaidErr
import Derived.Deep.Slices
import Derived.Deep.Fields
import Derived.Lib.SmallJoins
namespace Go.Proofs.YtjpcpiffffobcaaGreatDoor
open Go.ChangeShapes Go.WideShapes Go.ChangeAt Go.RowKit Go.Deep Go.Joins

theorem own : ownKnob Tryz.prog.godebug = none := by kernel_rfl
theorem laidOut : laidOutB Tryz.prog = true := by kernel_rfl
theorem gErr : Tryz.prog.globalNamed "loop.example/keyswitches/impl.errNoTarget" = some 0 := by kernel_rfl
theorem tErr : (Tryz.prog.globals[0]?).map (·.type) = some 132 := by kernel_rfl
theorem starErr : "*" ++ "errors.errorString" = "*errors.errorString" := by decide
theorem rowErr (u : TypeId) (h : Tryz.prog.typeName? 3 u = some "*errors.errorString") : u = 185 :=
  typeName_ptr_named (nm := "errors.errorString") (by rw [starErr]; kernel_rfl) (by kernel_rfl) (by decide) u (by rw [starErr]; exact h)
theorem var?_below {W W' : World} {n : String} {cs : Array Value} (h : W.var? Tryz.prog n = some cs) (hb : Below W.heap.size W W') : W'.var? Tryz.prog n = some cs := by
  unfold World.var? at h ⊢
  cases hg : Tryz.prog.globalNamed n with
  | none => simp [hg] at h
  | some g =>
    simp only [hg, Option.bind_some] at h ⊢
    have hlt : g < W.heap.size := by
      rcases Nat.lt_or_ge g W.heap.size with h' | h'
      · exact h'
      · simp [Array.getElem?_eq_none h'] at h
    rw [hb.block g hlt]
    exact h
set_option maxRecDepth 100000 in
/-- What the listed variable gives the walks. -/
theorem err_of_laid {W : World} (h : laidMetH Tryz.prog Rows.fnRunPlanRow.laid W) : ∃ a : Addr, W.var? Tryz.prog "loop.example/keyswitches/impl.errNoTarget" = some #[.iface 185 (.pointer (some a))] := by
  rw [MakeChecks.laidMetH_plain _ _ _ (by kernel_rfl)] at h
  obtain ⟨a, _, hv, _⟩ := laid_sentinel h gErr tErr Tryz.underlying132 rowErr Tryz.underlying185 Tryz.underlying226 rfl rfl Tryz.underlying9 (by kernel_rfl) (by kernel_rfl)
  exact ⟨a, hv⟩
set_option maxRecDepth 100000 in
theorem errAt_of_var {W : World} {a : Addr} (h : W.var? Tryz.prog "loop.example/keyswitches/impl.errNoTarget" = some #[.iface 185 (.pointer (some a))]) : ErrAt W := by
  have hc : W.cell? ⟨0, 0, none⟩ = some (.iface 185 (.pointer (some a))) := by simpa using World.var?_cell gErr h 0
  refine ⟨?_, _, _, hc⟩
  rcases Nat.lt_or_ge 0 W.heap.size with h' | h'
  · exact h'
  · simp [World.cell?, Array.getElem?_eq_none h'] at hc
theorem door_met (os : Os) (args : Array Value) : laidMetH Tryz.prog Rows.fnRunPlanRow.laid ((World.doorLaid Tryz.prog 400 os).forCall (fun _ _ => 0) ⟨#[], args, []⟩).memory :=
  laidMetH_of_parts3 (fuel := 8) (laidMet_of_run' 8 (by kernel_rfl) (by kernel_rfl)) (by kernel_rfl) (by kernel_rfl)

section
variable {H : Type} {enc : TypeId × Value → H} {W : World} {base : Nat} {sp : Nat → Bool} {held : Bool}
/-- A slice of bytes that can be read. -/
theorem bytes_of_trod {n : Nat} {v : Value} {x : DataW H × List MemPlace} (h : DataW.trod enc Tryz.prog W base sp held n 39 [v] = some x) :
    ∃ m, BytesAt W.heap.size W v m ∧ ∃ a c, v = .slice a m c := by
  rcases open_ints Tryz.underlying39 Tryz.underlying5 (by kernel_rfl) h with ⟨hcs, _⟩ | ⟨a, len, cap, zs, hcs, _, hl, hm, hzl, _, hi, hw⟩
  · simp only [List.cons.injEq, and_true] at hcs
    exact ⟨0, .inl ⟨rfl, _, _, hcs⟩, _, _, hcs⟩
  · simp only [List.cons.injEq, and_true] at hcs
    subst hcs
    rcases Nat.eq_zero_or_pos len with h0 | h0
    · subst h0
      exact ⟨0, .inl ⟨rfl, _, _, rfl⟩, _, _, rfl⟩
    have hle : len ≤ zs.length := by rw [hzl]; split <;> omega
    have hc := fun i (hi' : i < len) => hi i (by omega)
    have hspot : a.spot = none := by
      have h1 := hc 0 h0
      cases hsp : a.spot with
      | none => rfl
      | some q =>
        exfalso
        simp [World.cell?, Addr.add, hsp] at h1
        split at h1 <;> simp at h1
    obtain ⟨b, off, spot⟩ := a
    simp only at hspot
    subst hspot
    have hcell : ∀ j, j < len → W.cell? ⟨b, off + j, none⟩ = some (.int .u8 (zs.getD j 0)) := fun j hj => by
      have := hc j hj
      rw [Addr.add_lit] at this
      exact this
    have hold : b < W.heap.size := by
      have h1 := hcell 0 h0
      rcases Nat.lt_or_ge b W.heap.size with h' | h'
      · exact h'
      · simp [World.cell?, Array.getElem?_eq_none h'] at h1
    refine ⟨len, .inr ⟨b, off, cap, rfl, hl, hold, fun j hj => ?_⟩, _, _, rfl⟩
    have h2 : j < zs.length := by omega
    have hz : zs.getD j 0 = zs[j] := by simp [h2]
    have hr := hw _ (List.getElem_mem h2)
    have hr2 : 0 ≤ zs[j] ∧ zs[j] ≤ 255 := by
      simp [Lit.wf, IntKind.min, IntKind.max, IntKind.signed, IntKind.bits] at hr
      omega
    refine ⟨zs[j].toNat, by omega, ?_⟩
    rw [hcell j hj, hz, Int.toNat_of_nonneg hr2.1]
end
end Go.Proofs.YtjpcpiffffobcaaGreatDoor
