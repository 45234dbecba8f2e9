
/- FnRunChain returns true whatever the bytes that the draws are made of, and leaves them as they were. The one condition: the package variable errNoTarget holds what the program's text lays there (the card ties it). -/
import Derived.Test.YtjmfcnblkojejaaDoorKsLawRc
import Derived.Test.YtjmfcnblkojejaaDoorKsDoorB
import Derived.Test.YtjmfcnblkojejaaDoorCards
import Derived.Test.YtjmfcnblkojejaaDoorTie
namespace Go.Proofs.YtjmfcnblkojejaaDoor
open Go.ChangeShapes Go.WideShapes Go.ChangeAt Go.RowKit Go.Deep Go.Joins

set_option maxRecDepth 100000 in
theorem rc_lifted (os : Os) (started : os.Started) (H : Type) (enc : TypeId × Value → H) :
    ReturnsInHanded {} Tryd.checked os 5 .any (fun w args => (Rows.fnRunChainSpec.pre enc Tryd.prog Tryd.f5 [] false w args ∧ laidMetH Tryd.prog Rows.fnRunChainRow.laid w) ∧ sizedMet enc Tryd.prog Tryd.f5 (OpenSpec.ofChange Rows.fnRunChainSpec) false w args)
      (Rows.fnRunChainSpec.post enc Tryd.prog Tryd.f5 false true false false) := by
  refine returnsInHanded_of_change_and (C := Tryd.checked) (X := fun w _ => laidMetH Tryd.prog Rows.fnRunChainRow.laid w) (fun _ _ _ hh h => h.of_heap hh) own started (by kernel_rfl) Tryd.func5
    (ChangeSpec.witness_shaped (enc := enc) (C := Tryd.checked) (os := os) (X := fun w _ => laidMetH Tryd.prog Rows.fnRunChainRow.laid w) false (World.doorLaid Tryd.prog 400 os) #[.slice none 0 0, .slice none 0 0] 8 rfl (World.shaped_of_RefB (by kernel_rfl) (by kernel_rfl)) (by kernel_rfl) (by kernel_rfl) (by kernel_rfl) (door_met os _)) ?_
  intro W base args ds gs before hval0 hW _ _ hL _
  have hval : ∀ (j : Nat) t v, Tryd.f5.params[j]? = some t → args[j]? = some v → Value.okWide Tryd.prog W .any base t v := hval0
  have hW' := hW
  obtain ⟨p, q, hA0, hV0, rfl, hfz, hnd⟩ := hW
  have hA : DataW.TrodAll enc Tryd.prog W 0 (fun _ => true) true Tryd.f5.params.toList args.toList ds p := hA0
  have hV : DataW.TrodVars enc Tryd.prog W (fun _ => true) ["loop.example/keyswitches/impl.errNoTarget"] gs q := hV0
  rw [Tryd.params5] at hA hval
  obtain ⟨v0, v1, d0, d1, p0, p1, rfl, rfl, rfl, h0, h1⟩ := trodAll_two hA
  have hp : ∀ x ∈ p0, x.block < W.heap.size := fun x hx => hW'.lt x (List.mem_append_left _ (List.mem_append_left _ hx))
  have hp1 : ∀ x ∈ p1, x.block < W.heap.size := fun x hx => hW'.lt x (List.mem_append_left _ (List.mem_append_right _ hx))
  obtain ⟨a, hv⟩ := err_of_laid hL
  obtain ⟨rfl, rfl⟩ := hV.unique (vars_read1 enc gErr tErr Tryd.underlying117 hv trivial _)
  obtain ⟨ua, ul, uc, rfl⟩ := okWide_slice Tryd.underlying22 (hval 0 22 v0 rfl rfl)
  have h02 := h0
  obtain ⟨fuel, hf⟩ := h02
  obtain ⟨m, hB, hF⟩ := bytes_of_trod (show DataW.trod enc Tryd.prog W 0 (fun _ => true) true fuel 22 [.slice ua ul uc] = some (d0, p0) from hf)
  clear hf
  obtain ⟨ua1, ul1, uc1, rfl⟩ := okWide_slice Tryd.underlying22 (hval 1 22 v1 rfl rfl)
  have h12 := h1
  obtain ⟨fuel1, hf1⟩ := h12
  obtain ⟨k, hB1, hF1⟩ := bytes_of_trod (show DataW.trod enc Tryd.prog W 0 (fun _ => true) true fuel1 22 [.slice ua1 ul1 uc1] = some (d1, p1) from hf1)
  clear hf1
  refine (lawRc_any _ _ m k W hB hF hB1 hF1 (errAt_of_var hv)).mono fun e W' ⟨he, hb⟩ => ?_
  subst he
  have e1 : Rows.fnRunChainSpec.fn H ([d0, d1] ++ [tok enc (.iface 190 (.pointer (some a)))]) = { results := [.lit (.bool true)], args := [d0, d1], vars := [tok enc (.iface 190 (.pointer (some a)))] } := rfl
  refine ⟨_, rfl, _, _, _, [], p0 ++ p1, [.cell 0 0], hW', ?_, ?_, ?_, hb.frame _, fun h => by cases h⟩
  · rw [e1]; exact trodAll_mk1 (shut_bool Tryd.underlying4 true)
  · rw [e1]; exact trodAll_mk2 (hb.trod laidOut (by kernel_rfl) (of_decide_eq_true (by kernel_rfl)) h0 hp) (hb.trod laidOut (by kernel_rfl) (of_decide_eq_true (by kernel_rfl)) h1 hp1)
  · rw [e1]; exact vars_read1 enc gErr tErr Tryd.underlying117 (var?_below hv hb) trivial _

theorem rc_holds : Rows.FnRunChainSaid :=
  OpenClaim.holds_of_wide 5 Tryd.f5 rfl rfl rfl rfl rfl rfl rfl ⟨rfl, rfl, rfl, rfl, rfl⟩ rfl rfl rfl rfl rfl (by kernel_rfl) Tryd.func5 (by kernel_rfl)
    (of_decide_eq_true (by kernel_rfl)) (by unfold Func.isWrapper; first | (rw [if_pos (by decide +kernel)]; kernel_rfl) | (rw [if_neg (by decide +kernel)]; exact ⟨rfl, rfl⟩))
    (fun os started H enc _ => rc_lifted os started H enc)

theorem rc_card : Rows.FnRunChainCardSaid :=
  Claim7.holds_tied_plain_at .later [] [.sentinel] true Rows.fnRunChainCard.stood.harness false
    rc_holds (fun _ h => by cases h) (by kernel_rfl) (fun _ h => by cases h) fnRunChain_row_tie rfl ⟨rfl, rfl⟩ (by kernel_rfl) rfl
    (fun f fn hf hfn => by
      obtain rfl : f = 5 := Option.some.inj ((show Tryd.prog.funcNamed "loop.example/keyswitches/laws.FnRunChain" = some 5 by kernel_rfl).symm.trans hf) |>.symm
      obtain rfl : fn = Tryd.f5 := (Option.some.inj (Tryd.func5.symm.trans hfn)).symm
      exact ⟨by kernel_rfl, fun j t ht => by
        rw [Tryd.params5] at ht
        have hm : t ∈ [22, 22] := by simpa using Array.mem_of_getElem? ht
        have hall : ([22, 22].all fun u => !Tryd.prog.wantsStandIn u) = true := by kernel_rfl
        exact (show Tryd.prog.wantsStandIn t = false by simpa using List.all_eq_true.1 hall t hm)⟩)
    (by kernel_rfl)
end Go.Proofs.YtjmfcnblkojejaaDoor
