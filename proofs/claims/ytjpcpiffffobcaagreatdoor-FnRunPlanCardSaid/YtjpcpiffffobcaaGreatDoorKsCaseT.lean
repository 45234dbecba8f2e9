
/- caseTargets of the program: the letters of the cases in order. -/
import Derived.Test.YtjpcpiffffobcaaGreatDoorKsWordA
import Derived.Test.YtjpcpiffffobcaaGreatDoorKsLay9
import Derived.Laws.IdiomStrings
namespace Go.Proofs.YtjpcpiffffobcaaGreatDoor
open Go.RowKit Go.Shelf Go.Lib Go.Sort

theorem hasSuffix_z (l : List UInt8) : Lib.hasSuffix (l ++ [122]) [122] = true := by
  rw [Lib.hasSuffix, List.isSuffixOf_iff_suffix]
  exact List.suffix_append _ _
theorem trim_letters (d : Array CaseD) (z : Bool) : (⟨(Lib.trimSuffix (strOf (lettersZ d z)).data.toList zS.data.toList).toArray⟩ : ByteArray) = strOf (lettersTo d 8) := by
  have hz : zS.data.toList = [122] := rfl
  apply ByteArray.ext
  apply Array.ext'
  rw [hz, strOf_data, strOf_data]
  show Lib.trimSuffix _ _ = _
  unfold lettersZ Lib.trimSuffix
  cases z with
  | true =>
    have e : (lettersTo d 8 ++ (if true = true then [122] else [])).map (fun n : Int => UInt8.ofNat n.toNat) = (lettersTo d 8).map (fun n : Int => UInt8.ofNat n.toNat) ++ [122] := by simp
    rw [e, if_pos (hasSuffix_z _)]
    simp
  | false =>
    have e : (lettersTo d 8 ++ (if false = true then [122] else [])).map (fun n : Int => UInt8.ofNat n.toNat) = (lettersTo d 8).map (fun n : Int => UInt8.ofNat n.toNat) := by simp
    rw [e, if_neg]
    intro h
    rw [Lib.hasSuffix, List.isSuffixOf_iff_suffix] at h
    have hm := h.subset (List.mem_singleton.2 rfl)
    obtain ⟨x, hx, e2⟩ := List.mem_map.1 hm
    have hr := lettersTo_range d x hx
    have := ofNat_inj (x := x) (y := 122) (by omega) (by omega) (by omega) (by omega) (by rw [e2]; rfl)
    omega

theorem trimS_any (s p : ByteArray) (w : World) (hs : s.size ≤ 9223372036854775807) :
    Calls Tryz.prog 161 #[.string s, .string p] w fun e w' => e = .returned (.string ⟨(Lib.trimSuffix s.data.toList p.data.toList).toArray⟩) ∧ w' = w := Any.strings_TrimSuffix Tryz.laysTrimS s p w hs

set_option maxRecDepth 100000 in
set_option maxHeartbeats 1000000 in
theorem caseTargets_any (b off cap : Nat) (d : Array CaseD) (rest : Int) (w : World) (hR : RowC w b off d) (hE : ErrAt w) (hcap : d.size ≤ cap) (hmax : cap ≤ maxLen) (hok : SwOK d rest) :
    Calls Tryz.prog 159 #[.agg #[.slice (some ⟨b, off, none⟩) d.size cap, .int .i64 rest]] w fun x w' => x = .returned (.string (strOf (lettersTo d 8))) ∧ RowKit.Below w.heap.size w w' := by
  have ht := fun W (hW : RowKit.Below w.heap.size w W) => implTargets_any b off cap d rest W (hR.below hW) (hE.below hW) hcap hmax
  have hs := (swB_iff _ _).2 hok
  have e : targetsN d rest = strOf (lettersZ d (decide (keysN d rest < 32))) := by rw [targetsN, if_pos hs]
  have hl : (lettersZ d (decide (keysN d rest < 32))).length ≤ 9 := by
    have := lettersTo_length d 8
    unfold lettersZ
    rw [List.length_append]
    split <;> simp <;> omega
  have htr := trim_letters d (decide (keysN d rest < 32))
  simp only [e, hs] at ht
  obtain ⟨z, hz⟩ : ∃ z, z = strOf (lettersZ d (decide (keysN d rest < 32))) := ⟨_, rfl⟩
  have hzs : z.size ≤ 9223372036854775807 := by rw [hz, strOf_size]; omega
  rw [← hz] at ht htr
  have HTR := Lib.hid htr
  have HT := Lib.hid ht
  have HTS := Lib.hid (fun W => trimS_any z zS W hzs)
  obtain ⟨wa, hwa⟩ : ∃ wa, wa = w.alloc (.cells #[.slice (some ⟨b, off, none⟩) d.size cap, .int .i64 rest] 32) := ⟨_, rfl⟩
  have c0 : wa.cell? ⟨w.heap.size, 0, none⟩ = some (.slice (some ⟨b, off, none⟩) d.size cap) := by rw [hwa]; simp
  have c1 : wa.cell? ⟨w.heap.size, 1, none⟩ = some (.int .i64 rest) := by rw [hwa]; simp
  have hba : RowKit.Below w.heap.size w wa := by rw [hwa]; exact (Below.refl _ _).alloc (Nat.le_refl _) _
  have HA := Lib.hid hba
  have HWA := Lib.hid hwa
  clear hba hwa hR hok hE hs ht htr hz hzs e hl
  go_enter Tryz.func159, Tryz.ntmps159
  go_wp2_with fail
  rw [← HWA.out]
  go_wp2_with fail
  refine (HT.out _ HA.out).mono ?_
  rintro x w1 ⟨rfl, hb⟩
  have HB := Lib.hid (HA.out.trans (hb.mono HA.out.size))
  clear hb c0 c1
  go_wp2_with (first
    | (go_at_call 66; refine (text_any _).mono ?_; rintro y w3 ⟨rfl, hb3⟩; have HB3 := Lib.hid (HB.out.trans (hb3.mono HB.out.size)); clear hb3)
    | (go_at_call 161; refine (HTS.out _).mono ?_; rintro y w3 ⟨rfl, rfl⟩))
  go_ret
  exact ⟨retS HTR.out, HB3.out⟩
end Go.Proofs.YtjpcpiffffobcaaGreatDoor
