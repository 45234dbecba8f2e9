
/- For every slice of integers MasksFit answers as the model does, and leaves it. No condition. -/
import Derived.Test.YtbhamkmiagdimaaKsFit
import Derived.Test.YtbhamkmiagdimaaKsIntArg
import Derived.ProofKit
import Derived.OpenShut
import Derived.ChangeMaps5
namespace Go.Proofs.Ytbhamkmiagdimaa
open Go.ChangeShapes Go.WideShapes Go.ChangeAt Go.RowKit Go.ChangeMaps Go.Deep Go.Joins Go.Sort Go.Shelf Go.Lib

theorem rowN_of {w : World} {g : Nat} {o : Array Int} (hg : g < w.heap.size) (h : Holds encN w g 0 o) : RowN w g 0 o := ⟨hg, fun j hj => (h j hj).1⟩

set_option maxRecDepth 100000 in
set_option maxHeartbeats 1000000 in
theorem lawFit_any (v : Value) (o : Array Int) (w : World) (hv : SliceN w v o) :
    Calls Try.prog 4 #[v] w fun x w' => x = .returned (.bool true) ∧ RowKit.Below w.heap.size w w' := by
  obtain ⟨a, cap, rfl⟩ := hv.form
  by_cases hn : o.size ≤ 1048576
  case neg =>
    have hni : (1048576 : Int) < (o.size : Int) := by omega
    clear hv
    go_enter Try.func4, Try.ntmps4
    go_wp2
    go_ret
    exact ⟨rfl, Below.refl _ _⟩
  have hni : (o.size : Int) ≤ 1048576 := by omega
  have HTO := Lib.hid (fun W (hW : RowKit.Below w.heap.size w W) => toIntS_any _ o W (hv.below hW) hn)
  clear hv
  go_enter Try.func4, Try.ntmps4
  go_wp2_with fail
  refine (HTO.out _ (Below.refl _ _)).mono ?_
  rintro x w1 ⟨g1, rfl, hf1⟩
  have HB1 := Lib.hid hf1.2.2
  have HS := Lib.hid (specFit_any g1 0 o.size o w1 hf1.2.1 hn)
  clear hf1
  go_wp2_with fail
  refine HS.out.mono ?_
  rintro x w2 ⟨rfl, rfl⟩
  go_wp2_with fail
  refine (HTO.out _ HB1.out).mono ?_
  rintro x w3 ⟨g2, rfl, hf2⟩
  have HB2 := Lib.hid (HB1.out.trans (hf2.2.2.mono HB1.out.size))
  have HR2 := Lib.hid hf2.2.1
  clear hf2
  go_wp2_with fail
  refine (implFit_any g2 0 o.size o w3 HR2.out hn).mono ?_
  rintro x w4 ⟨rfl, rfl⟩
  obtain ⟨fb, hfb⟩ : ∃ fb, fb = fitB o := ⟨_, rfl⟩
  rw [← hfb]
  clear hfb
  go_wp2_with fail
  refine (HTO.out _ HB2.out).mono ?_
  rintro x w5 ⟨g3, rfl, hf3⟩
  have HB3 := Lib.hid (HB2.out.trans (hf3.2.2.mono HB2.out.size))
  have HEQ := Lib.hid (eqIntS_same g2 o.size g3 o.size o w5 (HR2.out.below hf3.2.2) hf3.2.1 hn)
  clear hf3
  go_wp2_with fail
  refine HEQ.out.mono ?_
  rintro x w6 ⟨rfl, hb6⟩
  have HB4 := Lib.hid (HB3.out.trans (hb6.mono HB3.out.size))
  clear hb6
  go_wp2
  go_ret
  exact ⟨rfl, HB4.out⟩

theorem ownF : ownKnob Try.prog.godebug = none := by kernel_rfl
theorem laidOutF : laidOutB Try.prog = true := by kernel_rfl

set_option maxRecDepth 100000 in
theorem fit_lifted (os : Os) (started : os.Started) (H : Type) (enc : TypeId × Value → H) :
    ReturnsInHanded {} Try.checked os 4 .any (Rows.fnExactMasksFitSpec.pre6 enc Try.prog Try.f4 Rows.fnExactMasksFitRow.domain false)
      (Rows.fnExactMasksFitSpec.post enc Try.prog Try.f4 false true false false) := by
  refine returnsInHanded_of_change (C := Try.checked) ownF started (by kernel_rfl) Try.func4
    (ChangeSpec.witness6 (enc := enc) (C := Try.checked) false ⟨#[], #[.slice none 0 0], []⟩ 8 (by kernel_rfl) (by kernel_rfl) (by kernel_rfl) (by kernel_rfl)) ?_
  intro W base args ds gs before hval0 hW hcnd _
  have hval : ∀ (j : Nat) t v, Try.f4.params[j]? = some t → args[j]? = some v → Value.okWide Try.prog W .any base t v := hval0
  have hW' := hW
  obtain ⟨p, q, hA0, hV, rfl, hfz, hnd⟩ := hW
  have hA : DataW.TrodAll enc Try.prog W 0 (fun _ => true) true Try.f4.params.toList args.toList ds p := hA0
  rw [Try.params4] at hA hval
  obtain ⟨v0, d0, rfl, rfl, h0⟩ := trodAll_one hA
  have hp : ∀ x ∈ p, x.block < W.heap.size := fun x hx => hW'.lt x (List.mem_append_left _ hx)
  obtain ⟨rfl, rfl⟩ := trodVars_none hV
  obtain ⟨ka, kl, kc, rfl⟩ := okWide_slice Try.underlying24 (hval 0 24 v0 rfl rfl)
  have h02 := h0
  obtain ⟨fuel, hf⟩ := h02
  obtain ⟨x, hSN, hx⟩ := ints_of_trod (show DataW.trod enc Try.prog W 0 (fun _ => true) true fuel 24 [.slice ka kl kc] = some (d0, p) from hf)
  clear hf
  refine (lawFit_any (.slice ka kl kc) x W hSN).mono fun e W' ⟨he, hb⟩ => ?_
  subst he
  have e1 : Rows.fnExactMasksFitSpec.fn H ([d0] ++ []) = { results := [.lit (.bool true)], args := [d0] } := rfl
  refine ⟨_, rfl, _, _, _, [], p, [], hW', ?_, ?_, ?_, hb.frame _, fun h => by cases h⟩
  · rw [e1]; exact trodAll_mk1 (shut_bool Try.underlying4 true)
  · rw [e1]; exact trodAll_mk1 (hb.trod laidOutF (by kernel_rfl) (of_decide_eq_true (by kernel_rfl)) h0 hp)
  · rw [e1]; rfl

theorem fit_holds : Rows.FnExactMasksFitSaid :=
  OpenClaim.holds_of_wide 4 Try.f4 rfl rfl rfl rfl rfl rfl rfl ⟨rfl, rfl, rfl, rfl, rfl⟩ rfl rfl rfl rfl rfl (by kernel_rfl) Try.func4 (by kernel_rfl)
    (of_decide_eq_true (by kernel_rfl)) (by unfold Func.isWrapper; first | (rw [if_pos (by decide +kernel)]; kernel_rfl) | (rw [if_neg (by decide +kernel)]; exact ⟨rfl, rfl⟩))
    (fun os started H enc _ => fit_lifted os started H enc)
end Go.Proofs.Ytbhamkmiagdimaa
