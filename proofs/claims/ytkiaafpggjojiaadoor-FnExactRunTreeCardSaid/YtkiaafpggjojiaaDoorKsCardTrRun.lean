
/- For every text and every number RunTree answers as the model does. The one condition: the package variables errNoTree, strconv.ErrSyntax and ErrRange and the library's three tables hold what the program's text lays there (the card ties it). -/
import Derived.Test.YtkiaafpggjojiaaDoorKsLawTrRun
import Derived.Test.YtkiaafpggjojiaaDoorKsDoorT
import Derived.Test.YtkiaafpggjojiaaDoorCards
import Derived.Test.YtkiaafpggjojiaaDoorTie
namespace Go.Proofs.YtkiaafpggjojiaaDoor
open Go.ChangeShapes Go.WideShapes Go.ChangeAt Go.RowKit Go.Deep Go.Joins Go.ChangeMaps

set_option maxRecDepth 100000 in
theorem trrun_lifted (os : Os) (started : os.Started) (H : Type) (enc : TypeId × Value → H) :
    ReturnsInHanded {} Tryd.checked os 4 .any (fun w args => (Rows.fnExactRunTreeSpec.pre enc Tryd.prog Tryd.f4 [] false w args ∧ laidMetH Tryd.prog Rows.fnExactRunTreeRow.laid w) ∧ sizedMet enc Tryd.prog Tryd.f4 (OpenSpec.ofChange Rows.fnExactRunTreeSpec) false w args)
      (Rows.fnExactRunTreeSpec.post enc Tryd.prog Tryd.f4 false true false false) := by
  refine returnsInHanded_of_change_and (C := Tryd.checked) (X := fun w _ => laidMetH Tryd.prog Rows.fnExactRunTreeRow.laid w) (fun _ _ _ hh h => h.of_heap hh) own started (by kernel_rfl) Tryd.func4
    (ChangeSpec.witness_shaped (enc := enc) (C := Tryd.checked) (os := os) (X := fun w _ => laidMetH Tryd.prog Rows.fnExactRunTreeRow.laid w) false (World.doorLaid Tryd.prog 400 os) #[.string ⟨#[]⟩, .int .i64 0] 8 rfl (World.shaped_of_RefB (by kernel_rfl) (by kernel_rfl)) (by kernel_rfl) (by kernel_rfl) (by kernel_rfl) (door_metT os _)) ?_
  intro W base args ds gs before hval0 hW _ _ hL _
  have hval : ∀ (j : Nat) t v, Tryd.f4.params[j]? = some t → args[j]? = some v → Value.okWide Tryd.prog W .any base t v := hval0
  have hW' := hW
  obtain ⟨p, q, hA0, hV0, rfl, hfz, hnd⟩ := hW
  have hA : DataW.TrodAll enc Tryd.prog W 0 (fun _ => true) true Tryd.f4.params.toList args.toList ds p := hA0
  have hV : DataW.TrodVars enc Tryd.prog W (fun _ => true) ["loop.example/keyswitches/impl.errNoTree"] gs q := hV0
  rw [Tryd.params4] at hA hval
  obtain ⟨v0, vk, d0, dk, p0, pk, rfl, rfl, rfl, h0, hk⟩ := trodAll_two hA
  obtain ⟨s, rfl, rfl, rfl, hs⟩ := open_string Tryd.underlying9 (hval 0 9 v0 rfl rfl) h0
  obtain ⟨key, rfl, rfl, rfl, wk⟩ := open_int Tryd.underlying3 (hval 1 3 vk rfl rfl) hk
  obtain ⟨a, hv, hVA⟩ := vars_of_laidT hL
  obtain ⟨rfl, rfl⟩ := hV.unique (vars_read1 enc gTree tTree Tryd.underlying127 hv trivial _)
  refine (lawTrRun_any s key W hVA).mono fun e W' ⟨he, hb⟩ => ?_
  subst he
  have e1 : Rows.fnExactRunTreeSpec.fn H ([.lit (.string s.data.toList), .lit (.int .i64 key)] ++ [tok enc (.iface 189 (.pointer (some a)))]) = { results := [.lit (.bool true)], args := [.lit (.string s.data.toList), .lit (.int .i64 key)], vars := [tok enc (.iface 189 (.pointer (some a)))] } := rfl
  refine ⟨_, rfl, _, _, _, [], ([] ++ []), [.cell 0 0], hW', ?_, ?_, ?_, hb.frame _, fun h => by cases h⟩
  · rw [e1]; exact trodAll_mk1 (shut_bool Tryd.underlying4 true)
  · rw [e1]; exact trodAll_mk2 (shut_string Tryd.underlying9 hs) (shut_int Tryd.underlying3 wk)
  · rw [e1]; exact vars_read1 enc gTree tTree Tryd.underlying127 (var?_below hv hb) trivial _

theorem trrun_holds : Rows.FnExactRunTreeSaid :=
  OpenClaim.holds_of_wide 4 Tryd.f4 rfl rfl rfl rfl rfl rfl rfl ⟨rfl, rfl, rfl, rfl, rfl⟩ rfl rfl rfl rfl rfl (by kernel_rfl) Tryd.func4 (by kernel_rfl)
    (of_decide_eq_true (by kernel_rfl)) (by unfold Func.isWrapper; first | (rw [if_pos (by decide +kernel)]; kernel_rfl) | (rw [if_neg (by decide +kernel)]; exact ⟨rfl, rfl⟩))
    (fun os started H enc _ => trrun_lifted os started H enc)

theorem trrun_card : Rows.FnExactRunTreeCardSaid :=
  Claim7.holds_tied_plain_at .later [] [.data, .data, .data, .sentinel, .sentinel, .sentinel] true Rows.fnExactRunTreeCard.stood.harness true
    trrun_holds (fun _ h => by cases h) (by kernel_rfl) (fun _ h => by cases h) fnExactRunTree_row_tie rfl ⟨rfl, rfl⟩ (by kernel_rfl) rfl
    (fun f fn hf hfn => by
      obtain rfl : f = 4 := Option.some.inj ((show Tryd.prog.funcNamed "loop.example/keyswitches/laws.FnExactRunTree" = some 4 by kernel_rfl).symm.trans hf) |>.symm
      obtain rfl : fn = Tryd.f4 := (Option.some.inj (Tryd.func4.symm.trans hfn)).symm
      exact ⟨by kernel_rfl, fun j t ht => by
        rw [Tryd.params4] at ht
        have hm : t ∈ [9, 3] := by simpa using Array.mem_of_getElem? ht
        have hall : ([9, 3].all fun u => !Tryd.prog.wantsStandIn u) = true := by kernel_rfl
        exact (show Tryd.prog.wantsStandIn t = false by simpa using List.all_eq_true.1 hall t hm)⟩)
    (by kernel_rfl)
end Go.Proofs.YtkiaafpggjojiaaDoor
