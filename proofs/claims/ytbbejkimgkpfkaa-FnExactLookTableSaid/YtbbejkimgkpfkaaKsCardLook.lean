
/- For every text and every two numbers LookTable answers as the model does. No condition. -/
import Derived.Test.YtbbejkimgkpfkaaKsLawLook
import Derived.ProofKit
import Derived.OpenShut
import Derived.ChangeMaps5
namespace Go.Proofs.Ytbbejkimgkpfkaa
open Go.ChangeShapes Go.WideShapes Go.ChangeAt Go.RowKit Go.ChangeMaps

theorem ownL : ownKnob Try.prog.godebug = none := by kernel_rfl

set_option maxRecDepth 100000 in
theorem look_lifted (os : Os) (started : os.Started) (H : Type) (enc : TypeId × Value → H) :
    ReturnsInHanded {} Try.checked os 3 .any (Rows.fnExactLookTableSpec.pre6 enc Try.prog Try.f3 Rows.fnExactLookTableRow.domain false)
      (Rows.fnExactLookTableSpec.post enc Try.prog Try.f3 false true false false) := by
  refine returnsInHanded_of_change (C := Try.checked) ownL started (by kernel_rfl) Try.func3
    (ChangeSpec.witness6 (enc := enc) (C := Try.checked) false ⟨#[], #[.string ⟨#[]⟩, .int .i64 0, .int .i64 0], []⟩ 8 (by kernel_rfl) (by kernel_rfl) (by kernel_rfl) (by kernel_rfl)) ?_
  intro W base args ds gs before hval0 hW hcnd _
  have hval : ∀ (j : Nat) t v, Try.f3.params[j]? = some t → args[j]? = some v → Value.okWide Try.prog W .any base t v := hval0
  have hW' := hW
  obtain ⟨p, q, hA0, hV, rfl, hfz, hnd⟩ := hW
  have hA : DataW.TrodAll enc Try.prog W 0 (fun _ => true) true Try.f3.params.toList args.toList ds p := hA0
  rw [Try.params3] at hA hval
  obtain ⟨v0, vk, vi, d0, dk, di, p0, pk, pi, rfl, rfl, rfl, h0, hk, hi'⟩ := trodAll_three hA
  obtain ⟨lo, rfl, rfl, rfl, wk⟩ := open_int Try.underlying3 (hval 1 3 vk rfl rfl) hk
  obtain ⟨hi, rfl, rfl, rfl, wi⟩ := open_int Try.underlying3 (hval 2 3 vi rfl rfl) hi'
  obtain ⟨s, rfl, rfl, rfl, hs⟩ := open_string Try.underlying9 (hval 0 9 v0 rfl rfl) h0
  obtain ⟨rfl, rfl⟩ := trodVars_none hV
  refine (lawLook_any s lo hi W hs).mono fun e W' ⟨he, hb⟩ => ?_
  subst he
  have e1 : Rows.fnExactLookTableSpec.fn H ([.lit (.string s.data.toList), .lit (.int .i64 lo), .lit (.int .i64 hi)] ++ []) = { results := [.lit (.bool true)], args := [.lit (.string s.data.toList), .lit (.int .i64 lo), .lit (.int .i64 hi)] } := rfl
  refine ⟨_, rfl, _, _, _, [], [] ++ ([] ++ []), [], hW', ?_, ?_, ?_, hb.frame _, fun h => by cases h⟩
  · rw [e1]; exact trodAll_mk1 (shut_bool Try.underlying4 true)
  · rw [e1]; exact trodAll_mk3 (shut_string Try.underlying9 hs) (shut_int Try.underlying3 wk) (shut_int Try.underlying3 wi)
  · rw [e1]; rfl

theorem look_holds : Rows.FnExactLookTableSaid :=
  OpenClaim.holds_of_wide 3 Try.f3 rfl rfl rfl rfl rfl rfl rfl ⟨rfl, rfl, rfl, rfl, rfl⟩ rfl rfl rfl rfl rfl (by kernel_rfl) Try.func3 (by kernel_rfl)
    (of_decide_eq_true (by kernel_rfl)) (by unfold Func.isWrapper; first | (rw [if_pos (by decide +kernel)]; kernel_rfl) | (rw [if_neg (by decide +kernel)]; exact ⟨rfl, rfl⟩))
    (fun os started H enc _ => look_lifted os started H enc)
end Go.Proofs.Ytbbejkimgkpfkaa
