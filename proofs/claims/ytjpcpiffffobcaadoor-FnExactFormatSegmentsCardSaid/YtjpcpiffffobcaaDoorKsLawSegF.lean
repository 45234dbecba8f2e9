
/- The law on FormatSegments, walked: it returns true whatever the list. -/
import Derived.Test.YtjpcpiffffobcaaDoorKsCopy
import Derived.Test.YtjpcpiffffobcaaDoorKsSzT
import Derived.Test.YtjpcpiffffobcaaDoorKsSegF
namespace Go.Proofs.YtjpcpiffffobcaaDoor
open Go.RowKit Go.Shelf Go.Lib Go.Sort

/-- A case's numbers are ints. -/
def IntC (c : CaseD) : Prop := (-9223372036854775808 ≤ c.low ∧ c.low ≤ 9223372036854775807) ∧ (-9223372036854775808 ≤ c.high ∧ c.high ≤ 9223372036854775807) ∧ (-9223372036854775808 ≤ c.weight ∧ c.weight ≤ 9223372036854775807)
set_option maxRecDepth 100000 in
set_option maxHeartbeats 1000000 in
theorem lawSegF_any (v : Value) (d : Array CaseD) (w : World) (hv : SliceC w v d) (hs : ∀ j, j < d.size → d[j]!.target.size ≤ maxLen) (hi : ∀ j, j < d.size → IntC d[j]!) (hT : TabA w) :
    Calls Tryd.prog 11 #[v] w fun x w' => x = .returned (.bool true) ∧ RowKit.Below w.heap.size w w' := by
  have HI := Lib.hid hi
  have HT := Lib.hid hT
  have hsz := Lib.hid (szCaseS_T v d w hv hs)
  have HTO := Lib.hid (fun (hn : d.size ≤ 1048576) W (hW : RowKit.Below w.heap.size w W) => toCaseS_any v d W (hv.below hW) hn)
  have hform : ∃ p n cap, v = .slice p n cap := by
    rcases hv with ⟨p, cap, rfl, _⟩ | ⟨b, off, cap, rfl, _⟩
    · exact ⟨_, _, _, rfl⟩
    · exact ⟨_, _, _, rfl⟩
  obtain ⟨p, n, cap, rfl⟩ := hform
  clear hv hs hi hT
  go_enter Tryd.func11, Tryd.ntmps11
  go_wp2_with fail
  refine hsz.out.mono ?_
  rintro x w1 ⟨r, rfl, hr, hb1⟩
  have HR := Lib.hid hr
  have HB1 := Lib.hid hb1
  clear hr hb1 hsz
  go_wp2_with fail
  · go_ret
    exact ⟨rfl, HB1.out⟩
  · have hr0 : 0 ≤ r := by assumption
    obtain ⟨hn, htg⟩ := HR.out hr0
    have HN := Lib.hid hn
    have HF := Lib.hid (show ∀ j, j < d.size → FitC d[j]! from fun j hj => ⟨(HI.out j hj).1.1, (HI.out j hj).1.2, (HI.out j hj).2.1.1, (HI.out j hj).2.1.2, (HI.out j hj).2.2.1, (HI.out j hj).2.2.2, htg j hj⟩)
    clear hn htg HR
    -- the model's answer
    refine (HTO.out HN.out _ HB1.out).mono ?_
    rintro x w2 ⟨g1, rfl, hf1⟩
    have HF1 := Lib.hid hf1.2.1
    have HB2 := Lib.hid (HB1.out.trans (hf1.2.2.mono HB1.out.size))
    clear hf1
    go_wp2_with fail
    refine (specSegF_any g1 0 d.size d w2 HF1.out HF.out HN.out).mono ?_
    rintro x w3 ⟨rfl, hb3⟩
    have HB3 := Lib.hid (HB2.out.trans (hb3.mono HB2.out.size))
    clear hb3
    go_wp2_with fail
    refine (HTO.out HN.out _ HB3.out).mono ?_
    rintro x w4 ⟨g2, rfl, hf2⟩
    have HF2 := Lib.hid hf2.2.1
    have HB4 := Lib.hid (HB3.out.trans (hf2.2.2.mono HB3.out.size))
    clear hf2
    go_wp2_with fail
    refine (implSegF_any g2 0 d.size d w4 HF2.out HF.out HN.out (tabA_below HT.out HB4.out)).mono ?_
    rintro x w5 ⟨rfl, hb5⟩
    have HF5 := Lib.hid (HF2.out.below hb5)
    have HB5 := Lib.hid (HB4.out.trans (hb5.mono HB4.out.size))
    clear hb5
    go_wp2_with fail
    refine (HTO.out HN.out _ HB5.out).mono ?_
    rintro x w6 ⟨g3, rfl, hf3⟩
    have HF6 := Lib.hid (HF5.out.below hf3.2.2)
    have HF7 := Lib.hid hf3.2.1
    have HB6 := Lib.hid (HB5.out.trans (hf3.2.2.mono HB5.out.size))
    clear hf3
    go_wp2_with fail
    refine (eqCaseS_same g2 0 d.size g3 0 d.size d w6 HF6.out HF7.out HN.out).mono ?_
    rintro x w7 ⟨rfl, hb7⟩
    have HB7 := Lib.hid (HB6.out.trans (hb7.mono HB6.out.size))
    clear hb7
    go_wp2
    go_ret
    exact ⟨rfl, HB7.out⟩
end Go.Proofs.YtjpcpiffffobcaaDoor
