
/- The law on LookPages, walked: it returns true whatever the pages, the index and the key. -/
import Derived.Test.YtbbejkimgkpfkaaKsPgD
import Derived.Test.YtbbejkimgkpfkaaKsIntArg
namespace Go.Proofs.Ytbbejkimgkpfkaa
open Go.RowKit Go.Sort Go.Shelf

set_option maxRecDepth 100000 in
set_option maxHeartbeats 2000000 in
theorem lawPg_any (v u : Value) (key : Int) (o : Array ByteArray) (x : Array Int) (w : World) (hv : SliceT w v o) (hu : SliceN w u x) (hs : ∀ j, j < o.size → o[j]!.size ≤ maxLen) (ho : o.size ≤ maxLen) (hx : x.size ≤ maxLen) :
    Calls Try.prog 4 #[v, u, .int .i64 key] w fun y w' => y = .returned (.bool true) ∧ RowKit.Below w.heap.size w w' := by
  obtain ⟨ua, uc, hform⟩ := hu.form
  have SZ := Lib.hid (fun W (hW : RowKit.Below w.heap.size w W) => szStringS_any v o W (hv.below hW) hs ho)
  have TOA := Lib.hid (fun (hn : o.size ≤ 1048576) W (hW : RowKit.Below w.heap.size w W) => toStringS_any v o W (hv.below hW) hn)
  have tob := fun (hn : x.size ≤ 1048576) W (hW : RowKit.Below w.heap.size w W) => toIntS_any u x W (hu.below hW) hn
  subst hform
  have TOB := Lib.hid tob
  unfold maxLen at hx
  clear hv hu hs tob ho
  by_cases hbig : 1048576 < x.size
  · go_enter Try.func4, Try.ntmps4
    go_wp2
    go_ret
    exact ⟨rfl, Below.refl _ _⟩
  have hM : x.size ≤ 1048576 := by omega
  have HM := Lib.hid hM
  have hMi : (x.size : Int) ≤ 1048576 := by omega
  clear hbig
  go_enter Try.func4, Try.ntmps4
  go_wp2_with fail
  refine (SZ.out _ (Below.refl _ _)).mono ?_
  rintro y w1 ⟨⟨r, rfl, hr⟩, rfl⟩
  have HR := Lib.hid hr
  clear hr SZ
  go_wp2_with fail
  · go_ret
    exact ⟨rfl, Below.refl _ _⟩
  · have hr0 : 0 ≤ r := by assumption
    have hn := HR.out hr0
    have HN := Lib.hid hn.1
    have HSZ := Lib.hid hn.2
    clear hn HR
    refine (TOA.out HN.out _ (Below.refl _ _)).mono ?_
    rintro y w2 ⟨g1, rfl, hf1⟩
    have R1 := Lib.hid hf1.2.1
    have B2 := Lib.hid hf1.2.2
    clear hf1
    go_wp2_with fail
    refine (TOB.out HM.out _ B2.out).mono ?_
    rintro y w3 ⟨g2, rfl, hf2⟩
    have R13 := Lib.hid (R1.out.below hf2.2.2)
    have R2 := Lib.hid hf2.2.1
    have B3 := Lib.hid (B2.out.trans (hf2.2.2.mono B2.out.size))
    clear hf2
    have HI := Lib.hid (fun (b1 k1 b2 k2 : Nat) (W : World) h1 h2 => implPages_any b1 0 k1 b2 0 k2 o x key W h1 h2 HN.out HM.out HSZ.out)
    have HS := Lib.hid (fun (b1 k1 b2 k2 : Nat) (W : World) h1 h2 => specPages_any b1 0 k1 b2 0 k2 o x key W h1 h2 HN.out HM.out HSZ.out)
    obtain ⟨z, hzz⟩ : ∃ z, z = lookPS o x key := ⟨_, rfl⟩
    obtain ⟨q, hqq⟩ : ∃ q, q = lookPB o x key := ⟨_, rfl⟩
    rw [← hzz, ← hqq] at HI HS
    clear hzz hqq
    go_wp2_with fail
    refine (HS.out g1 o.size g2 x.size w3 R13.out R2.out).mono ?_
    rintro y w4 ⟨rfl, hb4⟩
    have B4 := Lib.hid (B3.out.trans (hb4.mono B3.out.size))
    clear hb4
    go_wp2_with fail
    refine (TOA.out HN.out _ B4.out).mono ?_
    rintro y w5 ⟨g3, rfl, hf3⟩
    have R3 := Lib.hid hf3.2.1
    have B5 := Lib.hid (B4.out.trans (hf3.2.2.mono B4.out.size))
    clear hf3
    go_wp2_with fail
    refine (TOB.out HM.out _ B5.out).mono ?_
    rintro y w6 ⟨g4, rfl, hf4⟩
    have R4 := Lib.hid hf4.2.1
    have R36 := Lib.hid (R3.out.below hf4.2.2)
    have B6 := Lib.hid (B5.out.trans (hf4.2.2.mono B5.out.size))
    clear hf4
    go_wp2_with fail
    refine (HI.out g3 o.size g4 x.size w6 R36.out R4.out).mono ?_
    rintro y w7 ⟨rfl, hb7⟩
    have R37 := Lib.hid (R36.out.below hb7)
    have R47 := Lib.hid (R4.out.below hb7)
    have B7 := Lib.hid (B6.out.trans (hb7.mono B6.out.size))
    clear hb7
    cases q
    all_goals
      go_wp2_with fail
      refine (TOA.out HN.out _ B7.out).mono ?_
      rintro y w8 ⟨g5, rfl, hf5⟩
      have R5 := Lib.hid hf5.2.1
      have R38 := Lib.hid (R37.out.below hf5.2.2)
      have R48 := Lib.hid (R47.out.below hf5.2.2)
      have B8 := Lib.hid (B7.out.trans (hf5.2.2.mono B7.out.size))
      clear hf5
      go_wp2_with fail
      refine (eqStringS_same g3 o.size g5 o.size o _ R38.out R5.out HN.out).mono ?_
      rintro y w9 ⟨rfl, hb9⟩
      have R49 := Lib.hid (R48.out.below hb9)
      have B9 := Lib.hid (B8.out.trans (hb9.mono B8.out.size))
      clear hb9
      go_wp2_with fail
      refine (TOB.out HM.out _ B9.out).mono ?_
      rintro y w10 ⟨g6, rfl, hf6⟩
      have R6 := Lib.hid hf6.2.1
      have R410 := Lib.hid (R49.out.below hf6.2.2)
      have B10 := Lib.hid (B9.out.trans (hf6.2.2.mono B9.out.size))
      clear hf6
      go_wp2_with fail
      refine (eqIntS_same g4 x.size g6 x.size x _ R410.out R6.out HM.out).mono ?_
      rintro y w11 ⟨rfl, hb11⟩
      have B11 := Lib.hid (B10.out.trans (hb11.mono B10.out.size))
      clear hb11
      go_wp2_with fail
      go_ret
      exact ⟨rfl, B11.out⟩
end Go.Proofs.Ytbbejkimgkpfkaa
