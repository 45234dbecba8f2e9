
/- FnRunPlan returns true whatever the bytes that the draws are made of, and leaves them as they were. The one condition: the package variable errNoTarget holds what the program's text lays there (the card ties it). -/
import Derived.Test.YtjpcpiffffobcaaGreatDoorKsLawRpl
import Derived.Test.YtjpcpiffffobcaaGreatDoorKsDoorB
import Derived.Test.YtjpcpiffffobcaaGreatDoorCards
import Derived.Test.YtjpcpiffffobcaaGreatDoorTie
namespace Go.Proofs.YtjpcpiffffobcaaGreatDoor
open Go.ChangeShapes Go.WideShapes Go.ChangeAt Go.RowKit Go.Deep Go.Joins

set_option maxRecDepth 100000 in
theorem rpl_lifted (os : Os) (started : os.Started) (H : Type) (enc : TypeId × Value → H) :
    ReturnsInHanded {} Tryz.checked os 5 .any (fun w args => (Rows.fnRunPlanSpec.pre enc Tryz.prog Tryz.f5 [] false w args ∧ laidMetH Tryz.prog Rows.fnRunPlanRow.laid w) ∧ sizedMet enc Tryz.prog Tryz.f5 (OpenSpec.ofChange Rows.fnRunPlanSpec) false w args)
      (Rows.fnRunPlanSpec.post enc Tryz.prog Tryz.f5 false true false false) := by
  refine returnsInHanded_of_change_and (C := Tryz.checked) (X := fun w _ => laidMetH Tryz.prog Rows.fnRunPlanRow.laid w) (fun _ _ _ hh h => h.of_heap hh) own started (by kernel_rfl) Tryz.func5
    (ChangeSpec.witness_shaped (enc := enc) (C := Tryz.checked) (os := os) (X := fun w _ => laidMetH Tryz.prog Rows.fnRunPlanRow.laid w) false (World.doorLaid Tryz.prog 400 os) #[.slice none 0 0, .slice none 0 0] 8 rfl (World.shaped_of_RefB (by kernel_rfl) (by kernel_rfl)) (by kernel_rfl) (by kernel_rfl) (by kernel_rfl) (door_met os _)) ?_
  intro W base args ds gs before hval0 hW _ _ hL _
  have hval : ∀ (j : Nat) t v, Tryz.f5.params[j]? = some t → args[j]? = some v → Value.okWide Tryz.prog W .any base t v := hval0
  have hW' := hW
  obtain ⟨p, q, hA0, hV0, rfl, hfz, hnd⟩ := hW
  have hA : DataW.TrodAll enc Tryz.prog W 0 (fun _ => true) true Tryz.f5.params.toList args.toList ds p := hA0
  have hV : DataW.TrodVars enc Tryz.prog W (fun _ => true) ["loop.example/keyswitches/impl.errNoTarget"] gs q := hV0
  rw [Tryz.params5] at hA hval
  obtain ⟨v0, v1, d0, d1, p0, p1, rfl, rfl, rfl, h0, h1⟩ := trodAll_two hA
  have hp : ∀ x ∈ p0, x.block < W.heap.size := fun x hx => hW'.lt x (List.mem_append_left _ (List.mem_append_left _ hx))
  have hp1 : ∀ x ∈ p1, x.block < W.heap.size := fun x hx => hW'.lt x (List.mem_append_left _ (List.mem_append_right _ hx))
  obtain ⟨a, hv⟩ := err_of_laid hL
  obtain ⟨rfl, rfl⟩ := hV.unique (vars_read1 enc gErr tErr Tryz.underlying132 hv trivial _)
  obtain ⟨ua, ul, uc, rfl⟩ := okWide_slice Tryz.underlying39 (hval 0 39 v0 rfl rfl)
  have h02 := h0
  obtain ⟨fuel, hf⟩ := h02
  obtain ⟨m, hB, hF⟩ := bytes_of_trod (show DataW.trod enc Tryz.prog W 0 (fun _ => true) true fuel 39 [.slice ua ul uc] = some (d0, p0) from hf)
  clear hf
  obtain ⟨ua1, ul1, uc1, rfl⟩ := okWide_slice Tryz.underlying39 (hval 1 39 v1 rfl rfl)
  have h12 := h1
  obtain ⟨fuel1, hf1⟩ := h12
  obtain ⟨k, hB1, hF1⟩ := bytes_of_trod (show DataW.trod enc Tryz.prog W 0 (fun _ => true) true fuel1 39 [.slice ua1 ul1 uc1] = some (d1, p1) from hf1)
  clear hf1
  refine (lawRpl_any _ _ m k W hB hF hB1 hF1 (errAt_of_var hv)).mono fun e W' ⟨he, hb⟩ => ?_
  subst he
  have e1 : Rows.fnRunPlanSpec.fn H ([d0, d1] ++ [tok enc (.iface 185 (.pointer (some a)))]) = { results := [.lit (.bool true)], args := [d0, d1], vars := [tok enc (.iface 185 (.pointer (some a)))] } := rfl
  refine ⟨_, rfl, _, _, _, [], p0 ++ p1, [.cell 0 0], hW', ?_, ?_, ?_, hb.frame _, fun h => by cases h⟩
  · rw [e1]; exact trodAll_mk1 (shut_bool Tryz.underlying4 true)
  · rw [e1]; exact trodAll_mk2 (hb.trod laidOut (by kernel_rfl) (of_decide_eq_true (by kernel_rfl)) h0 hp) (hb.trod laidOut (by kernel_rfl) (of_decide_eq_true (by kernel_rfl)) h1 hp1)
  · rw [e1]; exact vars_read1 enc gErr tErr Tryz.underlying132 (var?_below hv hb) trivial _

theorem rpl_holds : Rows.FnRunPlanSaid :=
  OpenClaim.holds_of_wide 5 Tryz.f5 rfl rfl rfl rfl rfl rfl rfl ⟨rfl, rfl, rfl, rfl, rfl⟩ rfl rfl rfl rfl rfl (by kernel_rfl) Tryz.func5 (by kernel_rfl)
    (of_decide_eq_true (by kernel_rfl)) (by unfold Func.isWrapper; first | (rw [if_pos (by decide +kernel)]; kernel_rfl) | (rw [if_neg (by decide +kernel)]; exact ⟨rfl, rfl⟩))
    (fun os started H enc _ => rpl_lifted os started H enc)

theorem rpl_card : Rows.FnRunPlanCardSaid :=
  Claim7.holds_tied_plain_at .later [] [.sentinel] true Rows.fnRunPlanCard.stood.harness false
    rpl_holds (fun _ h => by cases h) (by kernel_rfl) (fun _ h => by cases h) fnRunPlan_row_tie rfl ⟨rfl, rfl⟩ (by kernel_rfl) rfl
    (fun f fn hf hfn => by
      obtain rfl : f = 5 := Option.some.inj ((show Tryz.prog.funcNamed "loop.example/keyswitches/laws.FnRunPlan" = some 5 by kernel_rfl).symm.trans hf) |>.symm
      obtain rfl : fn = Tryz.f5 := (Option.some.inj (Tryz.func5.symm.trans hfn)).symm
      exact ⟨by kernel_rfl, fun j t ht => by
        rw [Tryz.params5] at ht
        have hm : t ∈ [39, 39] := by simpa using Array.mem_of_getElem? ht
        have hall : ([39, 39].all fun u => !Tryz.prog.wantsStandIn u) = true := by kernel_rfl
        exact (show Tryz.prog.wantsStandIn t = false by simpa using List.all_eq_true.1 hall t hm)⟩)
    (by kernel_rfl)
end Go.Proofs.YtjpcpiffffobcaaGreatDoor
