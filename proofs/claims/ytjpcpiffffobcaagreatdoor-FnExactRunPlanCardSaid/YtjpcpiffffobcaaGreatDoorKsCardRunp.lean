
/- For every switch (any two fields, any cases, a nil slice too) and every list of clusters and every number RunPlan answers as the model does, and leaves both as they were. The one condition: the package variable errNoTarget holds what the program's text lays there (the card ties it). -/
import Derived.Test.YtjpcpiffffobcaaGreatDoorKsLawRunp
import Derived.Test.YtjpcpiffffobcaaGreatDoorKsDoorMet
import Derived.Test.YtjpcpiffffobcaaGreatDoorKsDoorQ
import Derived.Test.YtjpcpiffffobcaaGreatDoorCards
import Derived.Test.YtjpcpiffffobcaaGreatDoorTie
namespace Go.Proofs.YtjpcpiffffobcaaGreatDoor
open Go.ChangeShapes Go.WideShapes Go.ChangeAt Go.RowKit Go.Deep Go.Joins

set_option maxRecDepth 100000 in
theorem runp_lifted (os : Os) (started : os.Started) (H : Type) (enc : TypeId × Value → H) :
    ReturnsInHanded {} Tryz.checked os 3 .any (fun w args => (Rows.fnExactRunPlanSpec.pre enc Tryz.prog Tryz.f3 [] false w args ∧ laidMetH Tryz.prog Rows.fnExactRunPlanRow.laid w) ∧ sizedMet enc Tryz.prog Tryz.f3 (OpenSpec.ofChange Rows.fnExactRunPlanSpec) false w args)
      (Rows.fnExactRunPlanSpec.post enc Tryz.prog Tryz.f3 false true false false) := by
  refine returnsInHanded_of_change_and (C := Tryz.checked) (X := fun w _ => laidMetH Tryz.prog Rows.fnExactRunPlanRow.laid w) (fun _ _ _ hh h => h.of_heap hh) own started (by kernel_rfl) Tryz.func3
    (ChangeSpec.witness_shaped (enc := enc) (C := Tryz.checked) (os := os) (X := fun w _ => laidMetH Tryz.prog Rows.fnExactRunPlanRow.laid w) false (World.doorLaid Tryz.prog 400 os) #[.agg #[.slice none 0 0, .int .i64 0], .slice none 0 0, .int .i64 0] 8 rfl (World.shaped_of_RefB (by kernel_rfl) (by kernel_rfl)) (by kernel_rfl) (by kernel_rfl) (by kernel_rfl) (door_met os _)) ?_
  intro W base args ds gs before hval0 hW _ _ hL _
  have hval : ∀ (j : Nat) t v, Tryz.f3.params[j]? = some t → args[j]? = some v → Value.okWide Tryz.prog W .any base t v := hval0
  have hW' := hW
  obtain ⟨p, q, hA0, hV0, rfl, hfz, hnd⟩ := hW
  have hA : DataW.TrodAll enc Tryz.prog W 0 (fun _ => true) true Tryz.f3.params.toList args.toList ds p := hA0
  have hV : DataW.TrodVars enc Tryz.prog W (fun _ => true) ["loop.example/keyswitches/impl.errNoTarget"] gs q := hV0
  rw [Tryz.params3] at hA hval
  obtain ⟨v0, vk, vi, d0, dk, di, p0, pk, pi, rfl, rfl, rfl, h0, hk, hi⟩ := trodAll_three hA
  obtain ⟨key, rfl, rfl, rfl, wk⟩ := open_int Tryz.underlying3 (hval 2 3 vi rfl rfl) hi
  have hp : ∀ x ∈ p0, x.block < W.heap.size := fun x hx => hW'.lt x (List.mem_append_left _ (List.mem_append_left _ (List.mem_append_left _ hx)))
  have hpk : ∀ x ∈ pk, x.block < W.heap.size := fun x hx => hW'.lt x (List.mem_append_left _ (List.mem_append_left _ (List.mem_append_right _ hx)))
  obtain ⟨a, hv⟩ := err_of_laid hL
  obtain ⟨rfl, rfl⟩ := hV.unique (vars_read1 enc gErr tErr Tryz.underlying132 hv trivial _)
  obtain ⟨v1, v2, y0, y1, n, rfl, _, _, t1, t2⟩ := open_agg2 Tryz.underlying24 (by kernel_rfl) (by kernel_rfl) (hval 0 24 v0 rfl rfl) h0
  obtain ⟨rest, e2, _⟩ := DataW.trod_int Tryz.underlying3 t2
  obtain rfl : v2 = .int .i64 rest := by simpa using e2
  obtain ⟨d, hS, hs⟩ := slice_of_trod t1
  obtain ⟨ua, ul, uc, rfl⟩ := okWide_slice Tryz.underlying25 (hval 1 25 vk rfl rfl)
  have hk2 := hk
  obtain ⟨fuel, hf⟩ := hk2
  obtain ⟨o, hSN, ho⟩ := sliceQ_of_trod (show DataW.trod enc Tryz.prog W 0 (fun _ => true) true fuel 25 [.slice ua ul uc] = some (dk, pk) from hf)
  clear hf
  refine (lawRunp_any v1 (.slice ua ul uc) rest key d o W hS hSN hs (fun j hj => (ho j hj).1) (errAt_of_var hv)).mono fun e W' ⟨he, hb⟩ => ?_
  subst he
  have e1 : Rows.fnExactRunPlanSpec.fn H ([d0, dk, .lit (.int .i64 key)] ++ [tok enc (.iface 185 (.pointer (some a)))]) = { results := [.lit (.bool true)], args := [d0, dk, .lit (.int .i64 key)], vars := [tok enc (.iface 185 (.pointer (some a)))] } := rfl
  refine ⟨_, rfl, _, _, _, [], p0 ++ (pk ++ []), [.cell 0 0], hW', ?_, ?_, ?_, hb.frame _, fun h => by cases h⟩
  · rw [e1]; exact trodAll_mk1 (shut_bool Tryz.underlying4 true)
  · rw [e1]; exact trodAll_mk3 (hb.trod laidOut (by kernel_rfl) (of_decide_eq_true (by kernel_rfl)) h0 hp) (hb.trod laidOut (by kernel_rfl) (of_decide_eq_true (by kernel_rfl)) hk hpk) (shut_int Tryz.underlying3 wk)
  · rw [e1]; exact vars_read1 enc gErr tErr Tryz.underlying132 (var?_below hv hb) trivial _

theorem runp_holds : Rows.FnExactRunPlanSaid :=
  OpenClaim.holds_of_wide 3 Tryz.f3 rfl rfl rfl rfl rfl rfl rfl ⟨rfl, rfl, rfl, rfl, rfl⟩ rfl rfl rfl rfl rfl (by kernel_rfl) Tryz.func3 (by kernel_rfl)
    (of_decide_eq_true (by kernel_rfl)) (by unfold Func.isWrapper; first | (rw [if_pos (by decide +kernel)]; kernel_rfl) | (rw [if_neg (by decide +kernel)]; exact ⟨rfl, rfl⟩))
    (fun os started H enc _ => runp_lifted os started H enc)

theorem runp_card : Rows.FnExactRunPlanCardSaid :=
  Claim7.holds_tied_plain_at .later [] [.sentinel] true Rows.fnExactRunPlanCard.stood.harness false
    runp_holds (fun _ h => by cases h) (by kernel_rfl) (fun _ h => by cases h) fnExactRunPlan_row_tie rfl ⟨rfl, rfl⟩ (by kernel_rfl) rfl
    (fun f fn hf hfn => by
      obtain rfl : f = 3 := Option.some.inj ((show Tryz.prog.funcNamed "loop.example/keyswitches/laws.FnExactRunPlan" = some 3 by kernel_rfl).symm.trans hf) |>.symm
      obtain rfl : fn = Tryz.f3 := (Option.some.inj (Tryz.func3.symm.trans hfn)).symm
      exact ⟨by kernel_rfl, fun j t ht => by
        rw [Tryz.params3] at ht
        have hm : t ∈ [24, 25, 3] := by simpa using Array.mem_of_getElem? ht
        have hall : ([24, 25, 3].all fun u => !Tryz.prog.wantsStandIn u) = true := by kernel_rfl
        exact (show Tryz.prog.wantsStandIn t = false by simpa using List.all_eq_true.1 hall t hm)⟩)
    (by kernel_rfl)
end Go.Proofs.YtjpcpiffffobcaaGreatDoor
