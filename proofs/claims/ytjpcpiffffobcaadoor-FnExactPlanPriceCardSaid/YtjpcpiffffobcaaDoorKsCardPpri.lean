
/- For every switch (any two fields, any cases, a nil slice too) and every list of clusters PlanPrice answers as the model does, and leaves both as they were. The one condition: the package variable errNoTarget holds what the program's text lays there (the card ties it). -/
import Derived.Test.YtjpcpiffffobcaaDoorKsLawPpri
import Derived.Test.YtjpcpiffffobcaaDoorKsDoorMet
import Derived.Test.YtjpcpiffffobcaaDoorKsDoorQ
import Derived.Test.YtjpcpiffffobcaaDoorCards
import Derived.Test.YtjpcpiffffobcaaDoorTie
namespace Go.Proofs.YtjpcpiffffobcaaDoor
open Go.ChangeShapes Go.WideShapes Go.ChangeAt Go.RowKit Go.Deep Go.Joins

set_option maxRecDepth 100000 in
theorem ppri_lifted (os : Os) (started : os.Started) (H : Type) (enc : TypeId × Value → H) :
    ReturnsInHanded {} Tryd.checked os 6 .any (fun w args => (Rows.fnExactPlanPriceSpec.pre enc Tryd.prog Tryd.f6 [] false w args ∧ laidMetH Tryd.prog Rows.fnExactPlanPriceRow.laid w) ∧ sizedMet enc Tryd.prog Tryd.f6 (OpenSpec.ofChange Rows.fnExactPlanPriceSpec) false w args)
      (Rows.fnExactPlanPriceSpec.post enc Tryd.prog Tryd.f6 false true false false) := by
  refine returnsInHanded_of_change_and (C := Tryd.checked) (X := fun w _ => laidMetH Tryd.prog Rows.fnExactPlanPriceRow.laid w) (fun _ _ _ hh h => h.of_heap hh) own started (by kernel_rfl) Tryd.func6
    (ChangeSpec.witness_shaped (enc := enc) (C := Tryd.checked) (os := os) (X := fun w _ => laidMetH Tryd.prog Rows.fnExactPlanPriceRow.laid w) false (World.doorLaid Tryd.prog 400 os) #[.agg #[.slice none 0 0, .int .i64 0], .slice none 0 0] 8 rfl (World.shaped_of_RefB (by kernel_rfl) (by kernel_rfl)) (by kernel_rfl) (by kernel_rfl) (by kernel_rfl) (door_met os _)) ?_
  intro W base args ds gs before hval0 hW _ _ hL _
  have hval : ∀ (j : Nat) t v, Tryd.f6.params[j]? = some t → args[j]? = some v → Value.okWide Tryd.prog W .any base t v := hval0
  have hW' := hW
  obtain ⟨p, q, hA0, hV0, rfl, hfz, hnd⟩ := hW
  have hA : DataW.TrodAll enc Tryd.prog W 0 (fun _ => true) true Tryd.f6.params.toList args.toList ds p := hA0
  have hV : DataW.TrodVars enc Tryd.prog W (fun _ => true) ["loop.example/keyswitches/impl.errNoTarget"] gs q := hV0
  rw [Tryd.params6] at hA hval
  obtain ⟨v0, vk, d0, dk, p0, pk, rfl, rfl, rfl, h0, hk⟩ := trodAll_two hA
  have hp : ∀ x ∈ p0, x.block < W.heap.size := fun x hx => hW'.lt x (List.mem_append_left _ (List.mem_append_left _ hx))
  have hpk : ∀ x ∈ pk, x.block < W.heap.size := fun x hx => hW'.lt x (List.mem_append_left _ (List.mem_append_right _ hx))
  obtain ⟨a, hv⟩ := err_of_laid hL
  obtain ⟨rfl, rfl⟩ := hV.unique (vars_read1 enc gErr tErr Tryd.underlying115 hv trivial _)
  obtain ⟨v1, v2, y0, y1, n, rfl, _, _, t1, t2⟩ := open_agg2 Tryd.underlying24 (by kernel_rfl) (by kernel_rfl) (hval 0 24 v0 rfl rfl) h0
  obtain ⟨rest, e2, _⟩ := DataW.trod_int Tryd.underlying3 t2
  obtain rfl : v2 = .int .i64 rest := by simpa using e2
  obtain ⟨d, hS, hs⟩ := slice_of_trod t1
  obtain ⟨ua, ul, uc, rfl⟩ := okWide_slice Tryd.underlying41 (hval 1 41 vk rfl rfl)
  have hk2 := hk
  obtain ⟨fuel, hf⟩ := hk2
  obtain ⟨o, hSN, ho⟩ := sliceQ_of_trod (show DataW.trod enc Tryd.prog W 0 (fun _ => true) true fuel 41 [.slice ua ul uc] = some (dk, pk) from hf)
  clear hf
  refine (lawPpri_any v1 (.slice ua ul uc) rest d o W hS hSN hs (fun j hj => (ho j hj).1) (errAt_of_var hv)).mono fun e W' ⟨he, hb⟩ => ?_
  subst he
  have e1 : Rows.fnExactPlanPriceSpec.fn H ([d0, dk] ++ [tok enc (.iface 157 (.pointer (some a)))]) = { results := [.lit (.bool true)], args := [d0, dk], vars := [tok enc (.iface 157 (.pointer (some a)))] } := rfl
  refine ⟨_, rfl, _, _, _, [], p0 ++ pk, [.cell 0 0], hW', ?_, ?_, ?_, hb.frame _, fun h => by cases h⟩
  · rw [e1]; exact trodAll_mk1 (shut_bool Tryd.underlying4 true)
  · rw [e1]; exact trodAll_mk2 (hb.trod laidOut (by kernel_rfl) (of_decide_eq_true (by kernel_rfl)) h0 hp) (hb.trod laidOut (by kernel_rfl) (of_decide_eq_true (by kernel_rfl)) hk hpk)
  · rw [e1]; exact vars_read1 enc gErr tErr Tryd.underlying115 (var?_below hv hb) trivial _

theorem ppri_holds : Rows.FnExactPlanPriceSaid :=
  OpenClaim.holds_of_wide 6 Tryd.f6 rfl rfl rfl rfl rfl rfl rfl ⟨rfl, rfl, rfl, rfl, rfl⟩ rfl rfl rfl rfl rfl (by kernel_rfl) Tryd.func6 (by kernel_rfl)
    (of_decide_eq_true (by kernel_rfl)) (by unfold Func.isWrapper; first | (rw [if_pos (by decide +kernel)]; kernel_rfl) | (rw [if_neg (by decide +kernel)]; exact ⟨rfl, rfl⟩))
    (fun os started H enc _ => ppri_lifted os started H enc)

theorem ppri_card : Rows.FnExactPlanPriceCardSaid :=
  Claim7.holds_tied_plain_at .later [] [.sentinel] true Rows.fnExactPlanPriceCard.stood.harness false
    ppri_holds (fun _ h => by cases h) (by kernel_rfl) (fun _ h => by cases h) fnExactPlanPrice_row_tie rfl ⟨rfl, rfl⟩ (by kernel_rfl) rfl
    (fun f fn hf hfn => by
      obtain rfl : f = 6 := Option.some.inj ((show Tryd.prog.funcNamed "loop.example/keyswitches/laws.FnExactPlanPrice" = some 6 by kernel_rfl).symm.trans hf) |>.symm
      obtain rfl : fn = Tryd.f6 := (Option.some.inj (Tryd.func6.symm.trans hfn)).symm
      exact ⟨by kernel_rfl, fun j t ht => by
        rw [Tryd.params6] at ht
        have hm : t ∈ [24, 41] := by simpa using Array.mem_of_getElem? ht
        have hall : ([24, 41].all fun u => !Tryd.prog.wantsStandIn u) = true := by kernel_rfl
        exact (show Tryd.prog.wantsStandIn t = false by simpa using List.all_eq_true.1 hall t hm)⟩)
    (by kernel_rfl)
end Go.Proofs.YtjpcpiffffobcaaDoor
