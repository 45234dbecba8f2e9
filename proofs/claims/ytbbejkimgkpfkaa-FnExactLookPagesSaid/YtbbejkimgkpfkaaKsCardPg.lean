
/- For all pages, every index and every key LookPages answers as the model does, and leaves its arguments. No condition. -/
import Derived.Test.YtbbejkimgkpfkaaKsLawPg
import Derived.ProofKit
import Derived.OpenShut
import Derived.ChangeMaps5
namespace Go.Proofs.Ytbbejkimgkpfkaa
open Go.ChangeShapes Go.WideShapes Go.ChangeAt Go.RowKit Go.ChangeMaps Go.Deep Go.Joins Go.Sort

theorem ownP : ownKnob Try.prog.godebug = none := by kernel_rfl
theorem laidOutP : laidOutB Try.prog = true := by kernel_rfl

set_option maxRecDepth 100000 in
theorem pages_lifted (os : Os) (started : os.Started) (H : Type) (enc : TypeId × Value → H) :
    ReturnsInHanded {} Try.checked os 4 .any (Rows.fnExactLookPagesSpec.pre6 enc Try.prog Try.f4 Rows.fnExactLookPagesRow.domain false)
      (Rows.fnExactLookPagesSpec.post enc Try.prog Try.f4 false true false false) := by
  refine returnsInHanded_of_change (C := Try.checked) ownP started (by kernel_rfl) Try.func4
    (ChangeSpec.witness6 (enc := enc) (C := Try.checked) false ⟨#[], #[.slice none 0 0, .slice none 0 0, .int .i64 0], []⟩ 8 (by kernel_rfl) (by kernel_rfl) (by kernel_rfl) (by kernel_rfl)) ?_
  intro W base args ds gs before hval0 hW hcnd _
  have hval : ∀ (j : Nat) t v, Try.f4.params[j]? = some t → args[j]? = some v → Value.okWide Try.prog W .any base t v := hval0
  have hW' := hW
  obtain ⟨p, q, hA0, hV, rfl, hfz, hnd⟩ := hW
  have hA : DataW.TrodAll enc Try.prog W 0 (fun _ => true) true Try.f4.params.toList args.toList ds p := hA0
  rw [Try.params4] at hA hval
  obtain ⟨v0, vk, vi, d0, dk, di, p0, pk, pi, rfl, rfl, rfl, h0, hk, hi'⟩ := trodAll_three hA
  obtain ⟨key, rfl, rfl, rfl, wi⟩ := open_int Try.underlying3 (hval 2 3 vi rfl rfl) hi'
  have hp : ∀ x ∈ p0, x.block < W.heap.size := fun x hx => hW'.lt x (List.mem_append_left _ (List.mem_append_left _ (List.mem_append_left _ hx)))
  have hpk : ∀ x ∈ pk, x.block < W.heap.size := fun x hx => hW'.lt x (List.mem_append_left _ (List.mem_append_left _ (List.mem_append_right _ hx)))
  obtain ⟨rfl, rfl⟩ := trodVars_none hV
  obtain ⟨ua, ul, uc, rfl⟩ := okWide_slice Try.underlying25 (hval 0 25 v0 rfl rfl)
  obtain ⟨ka, kl, kc, rfl⟩ := okWide_slice Try.underlying26 (hval 1 26 vk rfl rfl)
  have h02 := h0
  obtain ⟨fuel0, hf0⟩ := h02
  obtain ⟨o, hST, hs, ho⟩ := strs_of_trod (show DataW.trod enc Try.prog W 0 (fun _ => true) true fuel0 25 [.slice ua ul uc] = some (d0, p0) from hf0)
  have hk2 := hk
  obtain ⟨fuel, hf⟩ := hk2
  obtain ⟨x, hSN, hx⟩ := ints_of_trod (show DataW.trod enc Try.prog W 0 (fun _ => true) true fuel 26 [.slice ka kl kc] = some (dk, pk) from hf)
  clear hf hf0
  refine (lawPg_any (.slice ua ul uc) (.slice ka kl kc) key o x W hST hSN hs ho hx).mono fun e W' ⟨he, hb⟩ => ?_
  subst he
  have e1 : Rows.fnExactLookPagesSpec.fn H ([d0, dk, .lit (.int .i64 key)] ++ []) = { results := [.lit (.bool true)], args := [d0, dk, .lit (.int .i64 key)] } := rfl
  refine ⟨_, rfl, _, _, _, [], p0 ++ (pk ++ []), [], hW', ?_, ?_, ?_, hb.frame _, fun h => by cases h⟩
  · rw [e1]; exact trodAll_mk1 (shut_bool Try.underlying4 true)
  · rw [e1]; exact trodAll_mk3 (hb.trod laidOutP (by kernel_rfl) (of_decide_eq_true (by kernel_rfl)) h0 hp) (hb.trod laidOutP (by kernel_rfl) (of_decide_eq_true (by kernel_rfl)) hk hpk) (shut_int Try.underlying3 wi)
  · rw [e1]; rfl

theorem pages_holds : Rows.FnExactLookPagesSaid :=
  OpenClaim.holds_of_wide 4 Try.f4 rfl rfl rfl rfl rfl rfl rfl ⟨rfl, rfl, rfl, rfl, rfl⟩ rfl rfl rfl rfl rfl (by kernel_rfl) Try.func4 (by kernel_rfl)
    (of_decide_eq_true (by kernel_rfl)) (by unfold Func.isWrapper; first | (rw [if_pos (by decide +kernel)]; kernel_rfl) | (rw [if_neg (by decide +kernel)]; exact ⟨rfl, rfl⟩))
    (fun os started H enc _ => pages_lifted os started H enc)
end Go.Proofs.Ytbbejkimgkpfkaa
