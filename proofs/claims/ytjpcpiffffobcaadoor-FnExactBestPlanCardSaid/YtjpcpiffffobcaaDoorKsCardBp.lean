
/- For every switch (any two fields, any cases, a nil slice too) BestPlan answers as the model does, and leaves the switch as it was. The one condition: the package variable errNoTarget holds what the program's text lays there (the card ties it). -/
import Derived.Test.YtjpcpiffffobcaaDoorKsLawBp
import Derived.Test.YtjpcpiffffobcaaDoorKsDoorMet
import Derived.Test.YtjpcpiffffobcaaDoorCards
import Derived.Test.YtjpcpiffffobcaaDoorTie
namespace Go.Proofs.YtjpcpiffffobcaaDoor
open Go.ChangeShapes Go.WideShapes Go.ChangeAt Go.RowKit Go.Deep Go.Joins

set_option maxRecDepth 100000 in
theorem bp_lifted (os : Os) (started : os.Started) (H : Type) (enc : TypeId × Value → H) :
    ReturnsInHanded {} Tryd.checked os 7 .any (fun w args => (Rows.fnExactBestPlanSpec.pre enc Tryd.prog Tryd.f7 [] false w args ∧ laidMetH Tryd.prog Rows.fnExactBestPlanRow.laid w) ∧ sizedMet enc Tryd.prog Tryd.f7 (OpenSpec.ofChange Rows.fnExactBestPlanSpec) false w args)
      (Rows.fnExactBestPlanSpec.post enc Tryd.prog Tryd.f7 false true false false) := by
  refine returnsInHanded_of_change_and (C := Tryd.checked) (X := fun w _ => laidMetH Tryd.prog Rows.fnExactBestPlanRow.laid w) (fun _ _ _ hh h => h.of_heap hh) own started (by kernel_rfl) Tryd.func7
    (ChangeSpec.witness_shaped (enc := enc) (C := Tryd.checked) (os := os) (X := fun w _ => laidMetH Tryd.prog Rows.fnExactBestPlanRow.laid w) false (World.doorLaid Tryd.prog 400 os) #[.agg #[.slice none 0 0, .int .i64 0]] 8 rfl (World.shaped_of_RefB (by kernel_rfl) (by kernel_rfl)) (by kernel_rfl) (by kernel_rfl) (by kernel_rfl) (door_met os _)) ?_
  intro W base args ds gs before hval0 hW _ _ hL _
  have hval : ∀ (j : Nat) t v, Tryd.f7.params[j]? = some t → args[j]? = some v → Value.okWide Tryd.prog W .any base t v := hval0
  have hW' := hW
  obtain ⟨p, q, hA0, hV0, rfl, hfz, hnd⟩ := hW
  have hA : DataW.TrodAll enc Tryd.prog W 0 (fun _ => true) true Tryd.f7.params.toList args.toList ds p := hA0
  have hV : DataW.TrodVars enc Tryd.prog W (fun _ => true) ["loop.example/keyswitches/impl.errNoTarget"] gs q := hV0
  rw [Tryd.params7] at hA hval
  obtain ⟨v0, d0, rfl, rfl, h0⟩ := trodAll_one hA
  have hp : ∀ x ∈ p, x.block < W.heap.size := fun x hx => hW'.lt x (List.mem_append_left _ hx)
  obtain ⟨a, hv⟩ := err_of_laid hL
  obtain ⟨rfl, rfl⟩ := hV.unique (vars_read1 enc gErr tErr Tryd.underlying115 hv trivial _)
  obtain ⟨v1, v2, y0, y1, n, rfl, _, _, t1, t2⟩ := open_agg2 Tryd.underlying24 (by kernel_rfl) (by kernel_rfl) (hval 0 24 v0 rfl rfl) h0
  obtain ⟨rest, e2, _⟩ := DataW.trod_int Tryd.underlying3 t2
  obtain rfl : v2 = .int .i64 rest := by simpa using e2
  obtain ⟨d, hS, hs⟩ := slice_of_trod t1
  refine (lawBp_any v1 rest d W hS hs (errAt_of_var hv)).mono fun e W' ⟨he, hb⟩ => ?_
  subst he
  have e1 : Rows.fnExactBestPlanSpec.fn H ([d0] ++ [tok enc (.iface 157 (.pointer (some a)))]) = { results := [.lit (.bool true)], args := [d0], vars := [tok enc (.iface 157 (.pointer (some a)))] } := rfl
  refine ⟨_, rfl, _, _, _, [], p, [.cell 0 0], hW', ?_, ?_, ?_, hb.frame _, fun h => by cases h⟩
  · rw [e1]; exact trodAll_mk1 (shut_bool Tryd.underlying4 true)
  · rw [e1]; exact trodAll_mk1 (hb.trod laidOut (by kernel_rfl) (of_decide_eq_true (by kernel_rfl)) h0 hp)
  · rw [e1]; exact vars_read1 enc gErr tErr Tryd.underlying115 (var?_below hv hb) trivial _

theorem bp_holds : Rows.FnExactBestPlanSaid :=
  OpenClaim.holds_of_wide 7 Tryd.f7 rfl rfl rfl rfl rfl rfl rfl ⟨rfl, rfl, rfl, rfl, rfl⟩ rfl rfl rfl rfl rfl (by kernel_rfl) Tryd.func7 (by kernel_rfl)
    (of_decide_eq_true (by kernel_rfl)) (by unfold Func.isWrapper; first | (rw [if_pos (by decide +kernel)]; kernel_rfl) | (rw [if_neg (by decide +kernel)]; exact ⟨rfl, rfl⟩))
    (fun os started H enc _ => bp_lifted os started H enc)

theorem bp_card : Rows.FnExactBestPlanCardSaid :=
  Claim7.holds_tied_plain_at .later [] [.sentinel] true Rows.fnExactBestPlanCard.stood.harness false
    bp_holds (fun _ h => by cases h) (by kernel_rfl) (fun _ h => by cases h) fnExactBestPlan_row_tie rfl ⟨rfl, rfl⟩ (by kernel_rfl) rfl
    (fun f fn hf hfn => by
      obtain rfl : f = 7 := Option.some.inj ((show Tryd.prog.funcNamed "loop.example/keyswitches/laws.FnExactBestPlan" = some 7 by kernel_rfl).symm.trans hf) |>.symm
      obtain rfl : fn = Tryd.f7 := (Option.some.inj (Tryd.func7.symm.trans hfn)).symm
      exact ⟨by kernel_rfl, fun j t ht => by
        rw [Tryd.params7] at ht
        have hm : t ∈ [24] := by simpa using Array.mem_of_getElem? ht
        have hall : ([24].all fun u => !Tryd.prog.wantsStandIn u) = true := by kernel_rfl
        exact (show Tryd.prog.wantsStandIn t = false by simpa using List.all_eq_true.1 hall t hm)⟩)
    (by kernel_rfl)
end Go.Proofs.YtjpcpiffffobcaaDoor
