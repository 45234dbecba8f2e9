/- For every two switches (any two fields, any cases, nil slices too) FirstOther answers as the model does, and leaves both as they were. The one condition: the package variable errNoTarget holds what the program's text lays there (the card ties it). -/
import Derived.Test.YtlcekocbaffnnaaDoorKsLawOther
import Derived.Test.YtlcekocbaffnnaaDoorKsDoorMet
import Derived.Test.YtlcekocbaffnnaaDoorCards
import Derived.Test.YtlcekocbaffnnaaDoorTie
namespace Go.Proofs.YtlcekocbaffnnaaDoor
open Go.ChangeShapes Go.WideShapes Go.ChangeAt Go.RowKit Go.Deep Go.Joins

set_option maxRecDepth 100000 in
theorem other_lifted (os : Os) (started : os.Started) (H : Type) (enc : TypeId × Value → H) :
    ReturnsInHanded {} Tryd.checked os 11 .any (fun w args => (Rows.fnExactFirstOtherSpec.pre enc Tryd.prog Tryd.f11 [] false w args ∧ laidMetH Tryd.prog Rows.fnExactFirstOtherRow.laid w) ∧ sizedMet enc Tryd.prog Tryd.f11 (OpenSpec.ofChange Rows.fnExactFirstOtherSpec) false w args)
      (Rows.fnExactFirstOtherSpec.post enc Tryd.prog Tryd.f11 false true false false) := by
  refine returnsInHanded_of_change_and (C := Tryd.checked) (X := fun w _ => laidMetH Tryd.prog Rows.fnExactFirstOtherRow.laid w) (fun _ _ _ hh h => h.of_heap hh) own started (by kernel_rfl) Tryd.func11
    (ChangeSpec.witness_shaped (enc := enc) (C := Tryd.checked) (os := os) (X := fun w _ => laidMetH Tryd.prog Rows.fnExactFirstOtherRow.laid w) false (World.doorLaid Tryd.prog 400 os) #[.agg #[.slice none 0 0, .int .i64 0], .agg #[.slice none 0 0, .int .i64 0]] 8 rfl (World.shaped_of_RefB (by kernel_rfl) (by kernel_rfl)) (by kernel_rfl) (by kernel_rfl) (by kernel_rfl) (door_met os _)) ?_
  intro W base args ds gs before hval0 hW _ _ hL _
  have hval : ∀ (j : Nat) t v, Tryd.f11.params[j]? = some t → args[j]? = some v → Value.okWide Tryd.prog W .any base t v := hval0
  have hW' := hW
  obtain ⟨p, q, hA0, hV0, rfl, hfz, hnd⟩ := hW
  have hA : DataW.TrodAll enc Tryd.prog W 0 (fun _ => true) true Tryd.f11.params.toList args.toList ds p := hA0
  have hV : DataW.TrodVars enc Tryd.prog W (fun _ => true) ["loop.example/keyswitches/impl.errNoTarget"] gs q := hV0
  rw [Tryd.params11] at hA hval
  obtain ⟨v0, vk, d0, dk, p0, pk, rfl, rfl, rfl, h0, hk⟩ := trodAll_two hA
  have hp : ∀ x ∈ p0, x.block < W.heap.size := fun x hx => hW'.lt x (List.mem_append_left _ (List.mem_append_left _ hx))
  have hpk : ∀ x ∈ pk, x.block < W.heap.size := fun x hx => hW'.lt x (List.mem_append_left _ (List.mem_append_right _ hx))
  obtain ⟨a, hv⟩ := err_of_laid hL
  obtain ⟨rfl, rfl⟩ := hV.unique (vars_read1 enc gErr tErr Tryd.underlying119 hv trivial _)
  obtain ⟨v1, v2, y0, y1, n, rfl, _, _, t1, t2⟩ := open_agg2 Tryd.underlying57 (by kernel_rfl) (by kernel_rfl) (hval 0 57 v0 rfl rfl) h0
  obtain ⟨rest, e2, _⟩ := DataW.trod_int Tryd.underlying3 t2
  obtain rfl : v2 = .int .i64 rest := by simpa using e2
  obtain ⟨d, hS, hs⟩ := slice_of_trod t1
  obtain ⟨v3, v4, y3, y4, n3, rfl, _, _, t3, t4⟩ := open_agg2 Tryd.underlying57 (by kernel_rfl) (by kernel_rfl) (hval 1 57 vk rfl rfl) hk
  obtain ⟨rest2, e4, _⟩ := DataW.trod_int Tryd.underlying3 t4
  obtain rfl : v4 = .int .i64 rest2 := by simpa using e4
  obtain ⟨d2, hS2, hs2⟩ := slice_of_trod t3
  refine (lawOther_any v1 v3 rest rest2 d d2 W hS hS2 hs hs2 (errAt_of_var hv)).mono fun e W' ⟨he, hb⟩ => ?_
  subst he
  have e1 : Rows.fnExactFirstOtherSpec.fn H ([d0, dk] ++ [tok enc (.iface 176 (.pointer (some a)))]) = { results := [.lit (.bool true)], args := [d0, dk], vars := [tok enc (.iface 176 (.pointer (some a)))] } := rfl
  refine ⟨_, rfl, _, _, _, [], p0 ++ pk, [.cell 0 0], hW', ?_, ?_, ?_, hb.frame _, fun h => by cases h⟩
  · rw [e1]; exact trodAll_mk1 (shut_bool Tryd.underlying4 true)
  · rw [e1]; exact trodAll_mk2 (hb.trod laidOut (by kernel_rfl) (of_decide_eq_true (by kernel_rfl)) h0 hp) (hb.trod laidOut (by kernel_rfl) (of_decide_eq_true (by kernel_rfl)) hk hpk)
  · rw [e1]; exact vars_read1 enc gErr tErr Tryd.underlying119 (var?_below hv hb) trivial _

theorem other_holds : Rows.FnExactFirstOtherSaid :=
  OpenClaim.holds_of_wide 11 Tryd.f11 rfl rfl rfl rfl rfl rfl rfl ⟨rfl, rfl, rfl, rfl, rfl⟩ rfl rfl rfl rfl rfl (by kernel_rfl) Tryd.func11 (by kernel_rfl)
    (of_decide_eq_true (by kernel_rfl)) (by unfold Func.isWrapper; first | (rw [if_pos (by decide +kernel)]; kernel_rfl) | (rw [if_neg (by decide +kernel)]; exact ⟨rfl, rfl⟩))
    (fun os started H enc _ => other_lifted os started H enc)

theorem other_card : Rows.FnExactFirstOtherCardSaid :=
  Claim7.holds_tied_plain_at .later [] [.sentinel] true Rows.fnExactFirstOtherCard.stood.harness false
    other_holds (fun _ h => by cases h) (by kernel_rfl) (fun _ h => by cases h) fnExactFirstOther_row_tie rfl ⟨rfl, rfl⟩ (by kernel_rfl) rfl
    (fun f fn hf hfn => by
      obtain rfl : f = 11 := Option.some.inj ((show Tryd.prog.funcNamed "loop.example/keyswitches/laws.FnExactFirstOther" = some 11 by kernel_rfl).symm.trans hf) |>.symm
      obtain rfl : fn = Tryd.f11 := (Option.some.inj (Tryd.func11.symm.trans hfn)).symm
      exact ⟨by kernel_rfl, fun j t ht => by
        rw [Tryd.params11] at ht
        have hm : t ∈ [57, 57] := by simpa using Array.mem_of_getElem? ht
        have hall : ([57, 57].all fun u => !Tryd.prog.wantsStandIn u) = true := by kernel_rfl
        exact (show Tryd.prog.wantsStandIn t = false by simpa using List.all_eq_true.1 hall t hm)⟩)
    (by kernel_rfl)
end Go.Proofs.YtlcekocbaffnnaaDoor
