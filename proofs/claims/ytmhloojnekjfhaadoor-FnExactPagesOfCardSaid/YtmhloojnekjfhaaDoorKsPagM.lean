
/- PagesOf and PagedSize of the model. -/
import Derived.Test.YtmhloojnekjfhaaDoorKsPagS
import Derived.Test.YtmhloojnekjfhaaDoorKsPgA
import Derived.Test.YtmhloojnekjfhaaDoorKsModel
namespace Go.Proofs.YtmhloojnekjfhaaDoor
open Go.RowKit Go.Shelf Go.Lib Go.Sort

noncomputable def pagB (d : Array CaseD) (rest size : Int) : Bool := swB d rest && sizeB size
def pagL (d : Array CaseD) (size : Int) : List ByteArray := pagesTo d size.toNat (32 / size.toNat)
def idxL (d : Array CaseD) (size : Int) : List Int := indexTo d size.toNat (32 / size.toNat)
noncomputable def pagesN (d : Array CaseD) (rest size : Int) : List ByteArray := if pagB d rest size = true then pagL d size else []
noncomputable def indexN (d : Array CaseD) (rest size : Int) : List Int := if pagB d rest size = true then idxL d size else []
/-- What pages of a size have together with their index. -/
def entZ (d : Array CaseD) (size : Int) : Int := (pagL d size).length * size + (idxL d size).length
noncomputable def entN (d : Array CaseD) (rest size : Int) : Int := if pagB d rest size = true then entZ d size else -1
theorem size_nat {size : Int} (h : sizeB size = true) : ∃ sz n : Nat, size = sz ∧ sz * n = 32 ∧ 32 / sz = n ∧ 1 ≤ sz ∧ sz ≤ 32 := by
  rcases (sizeB_iff size).1 h with rfl | rfl | rfl | rfl | rfl | rfl
  · exact ⟨1, 32, by decide⟩
  · exact ⟨2, 16, by decide⟩
  · exact ⟨4, 8, by decide⟩
  · exact ⟨8, 4, by decide⟩
  · exact ⟨16, 2, by decide⟩
  · exact ⟨32, 1, by decide⟩
/-- Pages, an index, and whether they are there. -/
def Pag3 (base : Nat) (P : List ByteArray) (I : List Int) (ok : Bool) (w : World) (x : Ending) (w' : World) : Prop :=
  ∃ v u, x = .returned (.tuple #[v, u, .bool ok]) ∧ OwnsT base v P w' ∧ w'.ownsRow base 3 1 u I.length (I.map encN) ∧ RowKit.Below base w w'
theorem ret3b {v u : Value} {a b : Bool} (h : a = b) : Ending.returned (.tuple #[v, u, .bool a]) = .returned (.tuple #[v, u, .bool b]) := by rw [h]

set_option maxRecDepth 100000 in
set_option maxHeartbeats 2000000 in
theorem specPagesOf_any (b off cap : Nat) (d : Array CaseD) (rest size : Int) (w : World) (hR : RowC w b off d) (hcap : d.size ≤ cap) (hmax : cap ≤ maxLen) :
    Calls Tryd.prog 9 #[.agg #[.slice (some ⟨b, off, none⟩) d.size cap, .int .i64 rest], .int .i64 size] w (Pag3 w.heap.size (pagesN d rest size) (indexN d rest size) (pagB d rest size) w) := by
  have hv := fun W (hW : RowKit.Below w.heap.size w W) => specValid_any b off cap d rest W (hR.below hW) hcap hmax
  have HT := Lib.hid (fun (sz n : Nat) (hok : SwOK d rest) (h : sz * n = 32) W (hW : RowKit.Below w.heap.size w W) => l6Pages_any b off cap d rest sz n W (hR.below hW) hok h)
  have hk := fun W => l6Size_any size W
  obtain ⟨wa, hwa⟩ : ∃ wa, wa = w.alloc (.cells #[.slice (some ⟨b, off, none⟩) d.size cap, .int .i64 rest] 25) := ⟨_, rfl⟩
  have c0 : wa.cell? ⟨w.heap.size, 0, none⟩ = some (.slice (some ⟨b, off, none⟩) d.size cap) := by rw [hwa]; simp
  have c1 : wa.cell? ⟨w.heap.size, 1, none⟩ = some (.int .i64 rest) := by rw [hwa]; simp
  have hz : w.heap.size < wa.heap.size := by rw [hwa]; simp
  have hba : RowKit.Below w.heap.size w wa := by rw [hwa]; exact (Below.refl _ _).alloc (Nat.le_refl _) _
  have HA := Lib.hid hba
  have C0 := Lib.hid c0
  have C1 := Lib.hid c1
  have HWA := Lib.hid hwa
  clear hba c0 c1 hwa hR
  cases hs : swB d rest <;> cases hkb : sizeB size
  all_goals
    simp only [hs] at hv
    simp only [hkb] at hk
    have HV := Lib.hid hv
    have HS := Lib.hid hs
    have HK := Lib.hid hk
    have HKB := Lib.hid hkb
    have HPB := Lib.hid (show pagB d rest size = _ by rw [pagB, hs, hkb])
    clear hv hs hk hkb
  case true.true =>
    obtain ⟨sz, n, rfl, h1, h2, h3, h4⟩ := size_nat HKB.out
    have hpt : pagB d rest (sz : Int) = true := HPB.out
    have HPN := Lib.hid (show pagesN d rest (sz : Int) = pagesTo d sz n by rw [pagesN, if_pos hpt, pagL, Int.toNat_natCast, h2])
    have HIN := Lib.hid (show indexN d rest (sz : Int) = indexTo d sz n by rw [indexN, if_pos hpt, idxL, Int.toNat_natCast, h2])
    have HTT := Lib.hid (HT.out sz n ((swB_iff _ _).1 HS.out) h1)
    clear h1 h2 hpt
    go_enter Tryd.func9, Tryd.ntmps9
    go_wp2_with fail
    rw [← HWA.out]
    refine (HV.out _ HA.out).mono ?_
    rintro x w1 ⟨rfl, hb⟩
    have HB := Lib.hid (HA.out.trans (hb.mono (Nat.le_of_lt hz)))
    have a0 := (hb.cell (p := ⟨w.heap.size, 0, none⟩) hz).trans C0.out
    have a1 := (hb.cell (p := ⟨w.heap.size, 1, none⟩) hz).trans C1.out
    clear hb
    go_wp2_with (first
      | (go_at_call 38; refine (HK.out _).mono ?_; rintro _ w2 ⟨rfl, rfl⟩)
      | (go_at_call 39; refine (HTT.out _ HB.out).mono ?_; rintro _ w3 ⟨v, u, rfl, hv3, hu3, hb3⟩; have HV3 := Lib.hid hv3; have HU3 := Lib.hid hu3; have HB3 := Lib.hid (HB.out.trans (hb3.mono HB.out.size)); clear hv3 hu3 hb3))
    go_ret3
    refine ⟨v, u, ret3b HPB.out.symm, ?_, ?_, HB3.out⟩
    · rw [HPN.out]; exact owns_base HV3.out HB.out.size
    · rw [HIN.out, indexTo_length]; exact owns_base HU3.out HB.out.size
  all_goals
    have HPN := Lib.hid (show pagesN d rest size = [] by rw [pagesN, HPB.out]; rfl)
    have HIN := Lib.hid (show indexN d rest size = [] by rw [indexN, HPB.out]; rfl)
    go_enter Tryd.func9, Tryd.ntmps9
    go_wp2_with fail
    rw [← HWA.out]
    refine (HV.out _ HA.out).mono ?_
    rintro x w1 ⟨rfl, hb⟩
    have HB := Lib.hid (HA.out.trans (hb.mono (Nat.le_of_lt hz)))
    clear hb
    go_wp2_with (first
      | (go_at_call 38; refine (HK.out _).mono ?_; rintro _ w2 ⟨rfl, rfl⟩))
    go_ret3
    refine ⟨_, _, ret3b HPB.out.symm, ?_, ?_, (HB.out.alloc HB.out.size _).alloc (by simp; have := HB.out.size; omega) _⟩
    · rw [HPN.out]; exact owns_base ((World.ownsRow_made w1 #[] 0 (Nat.le_refl _) (Nat.zero_le _) (by simp)).alloc _) HB.out.size
    · rw [HIN.out]
      have h := World.ownsRow_made (base := w1.heap.size) (e := 3) (size := 1) (w1.alloc (.cells #[] 9)) #[] 0 (by simp) (Nat.zero_le _) rfl
      rw [World.size_alloc] at h
      exact owns_base h HB.out.size

set_option maxRecDepth 100000 in
set_option maxHeartbeats 2000000 in
theorem l6Entries_any (b off cap : Nat) (d : Array CaseD) (rest size : Int) (w : World) (hR : RowC w b off d) (hok : SwOK d rest) (hsz : sizeB size = true) :
    Calls Tryd.prog 55 #[.agg #[.slice (some ⟨b, off, none⟩) d.size cap, .int .i64 rest], .int .i64 size] w fun x w' => x = .returned (.int .i64 (entZ d size)) ∧ RowKit.Below w.heap.size w w' := by
  obtain ⟨sz, n, rfl, h1, h2, h3, h4⟩ := size_nat hsz
  have HT := Lib.hid (fun W (hW : RowKit.Below w.heap.size w W) => l6Pages_any b off cap d rest sz n W (hR.below hW) hok h1)
  have hl := pagesTo_length d sz n
  have hmul : (pagesTo d sz n).length * sz ≤ n * sz := Nat.mul_le_mul_right _ hl
  rw [Nat.mul_comm n sz, h1] at hmul
  have hn32 : n ≤ 32 := Nat.le_of_dvd (by decide) ⟨sz, by rw [Nat.mul_comm]; exact h1.symm⟩
  have HE := Lib.hid (show entZ d (sz : Int) = ((pagesTo d sz n).length : Int) * (sz : Int) + (n : Int) by rw [entZ, pagL, idxL, Int.toNat_natCast, h2, indexTo_length])
  obtain ⟨wa, hwa⟩ : ∃ wa, wa = w.alloc (.cells #[.slice (some ⟨b, off, none⟩) d.size cap, .int .i64 rest] 25) := ⟨_, rfl⟩
  have hba : RowKit.Below w.heap.size w wa := by rw [hwa]; exact (Below.refl _ _).alloc (Nat.le_refl _) _
  have HA := Lib.hid hba
  have HWA := Lib.hid hwa
  clear hba hwa hR hok h1 h2
  go_enter Tryd.func55, Tryd.ntmps55
  go_wp2_with fail
  rw [← HWA.out]
  refine (HT.out _ HA.out).mono ?_
  rintro x w3 ⟨v, u, rfl, hv3, hu3, hb3⟩
  obtain ⟨p, c, rfl, _⟩ := ownsT_form hv3
  obtain ⟨q, c2, rfl⟩ : ∃ q c2, u = .slice q n c2 := by
    rcases hu3.2 with ⟨h0, h1⟩ | ⟨g, cap, cur, h0, _⟩
    · exact ⟨none, 0, by rw [h0, h1]⟩
    · exact ⟨_, _, h0⟩
  have HB3 := Lib.hid (HA.out.trans (hb3.mono HA.out.size))
  obtain ⟨m, hm⟩ : ∃ m, m = (pagesTo d sz n).length := ⟨_, rfl⟩
  rw [← hm] at HE hl hmul ⊢
  have hm32 : (m : Int) ≤ 32 := by omega
  have hs32 : (sz : Int) ≤ 32 := by omega
  obtain ⟨t, ht⟩ : ∃ t : Nat, t = m * sz := ⟨_, rfl⟩
  have hmt : (m : Int) * (sz : Int) = (t : Int) := by rw [ht]; simp
  rw [hmt] at HE
  have ht32 : (t : Int) ≤ 32 := by omega
  have hnn : (n : Int) ≤ 32 := by omega
  clear hv3 hu3 hb3 hm ht hmul
  go_wp2_with fail
  go_ret
  exact ⟨retI HE.out.symm, HB3.out⟩

set_option maxRecDepth 100000 in
set_option maxHeartbeats 2000000 in
theorem specPSize_any (b off cap : Nat) (d : Array CaseD) (rest size : Int) (w : World) (hR : RowC w b off d) (hcap : d.size ≤ cap) (hmax : cap ≤ maxLen) :
    Calls Tryd.prog 17 #[.agg #[.slice (some ⟨b, off, none⟩) d.size cap, .int .i64 rest], .int .i64 size] w fun x w' => x = .returned (.int .i64 (entN d rest size)) ∧ RowKit.Below w.heap.size w w' := by
  have hv := fun W (hW : RowKit.Below w.heap.size w W) => specValid_any b off cap d rest W (hR.below hW) hcap hmax
  have HT := Lib.hid (fun (hok : SwOK d rest) (h : sizeB size = true) W (hW : RowKit.Below w.heap.size w W) => l6Entries_any b off cap d rest size W (hR.below hW) hok h)
  have hk := fun W => l6Size_any size W
  obtain ⟨wa, hwa⟩ : ∃ wa, wa = w.alloc (.cells #[.slice (some ⟨b, off, none⟩) d.size cap, .int .i64 rest] 25) := ⟨_, rfl⟩
  have c0 : wa.cell? ⟨w.heap.size, 0, none⟩ = some (.slice (some ⟨b, off, none⟩) d.size cap) := by rw [hwa]; simp
  have c1 : wa.cell? ⟨w.heap.size, 1, none⟩ = some (.int .i64 rest) := by rw [hwa]; simp
  have hz : w.heap.size < wa.heap.size := by rw [hwa]; simp
  have hba : RowKit.Below w.heap.size w wa := by rw [hwa]; exact (Below.refl _ _).alloc (Nat.le_refl _) _
  have HA := Lib.hid hba
  have C0 := Lib.hid c0
  have C1 := Lib.hid c1
  have HWA := Lib.hid hwa
  clear hba c0 c1 hwa hR
  cases hs : swB d rest <;> cases hkb : sizeB size
  all_goals
    simp only [hs] at hv
    simp only [hkb] at hk
    have HV := Lib.hid hv
    have HS := Lib.hid hs
    have HK := Lib.hid hk
    have HKB := Lib.hid hkb
    have HPB := Lib.hid (show pagB d rest size = _ by rw [pagB, hs, hkb])
    clear hv hs hk hkb
  case true.true =>
    have hpt : pagB d rest size = true := HPB.out
    have HEN := Lib.hid (show entN d rest size = entZ d size by rw [entN, if_pos hpt])
    have HTT := Lib.hid (HT.out ((swB_iff _ _).1 HS.out) HKB.out)
    clear hpt
    go_enter Tryd.func17, Tryd.ntmps17
    go_wp2_with fail
    rw [← HWA.out]
    refine (HV.out _ HA.out).mono ?_
    rintro x w1 ⟨rfl, hb⟩
    have HB := Lib.hid (HA.out.trans (hb.mono (Nat.le_of_lt hz)))
    have a0 := (hb.cell (p := ⟨w.heap.size, 0, none⟩) hz).trans C0.out
    have a1 := (hb.cell (p := ⟨w.heap.size, 1, none⟩) hz).trans C1.out
    clear hb
    go_wp2_with (first
      | (go_at_call 38; refine (HK.out _).mono ?_; rintro _ w2 ⟨rfl, rfl⟩)
      | (go_at_call 55; refine (HTT.out _ HB.out).mono ?_; rintro _ w3 ⟨rfl, hb3⟩; have HB3 := Lib.hid (HB.out.trans (hb3.mono HB.out.size)); clear hb3))
    go_ret
    exact ⟨retI HEN.out.symm, HB3.out⟩
  all_goals
    have HEN := Lib.hid (show entN d rest size = -1 by rw [entN, HPB.out]; rfl)
    go_enter Tryd.func17, Tryd.ntmps17
    go_wp2_with fail
    rw [← HWA.out]
    refine (HV.out _ HA.out).mono ?_
    rintro x w1 ⟨rfl, hb⟩
    have HB := Lib.hid (HA.out.trans (hb.mono (Nat.le_of_lt hz)))
    clear hb
    go_wp2_with (first
      | (go_at_call 38; refine (HK.out _).mono ?_; rintro _ w2 ⟨rfl, rfl⟩))
    go_ret
    exact ⟨retI HEN.out.symm, HB.out⟩
end Go.Proofs.YtmhloojnekjfhaaDoor
