/- SwapGain: the program's and the model's. -/
import Derived.Test.YthchhgjnelkmhaaDoorKsCostC
namespace Go.Proofs.YthchhgjnelkmhaaDoor
open Go.RowKit Go.Shelf Go.Lib Go.Sort

/-- Two neighbours swapped. -/
def swpN (o : Array Int) (i : Nat) : Array Int := (o.setIfInBounds i o[i + 1]!).setIfInBounds (i + 1) o[i]!
theorem swpN_size (o : Array Int) (i : Nat) : (swpN o i).size = o.size := by simp [swpN]
def sigN (i j : Nat) : Nat := if j = i then i + 1 else if j = i + 1 then i else j
theorem sigN_lt {i j n : Nat} (hi : i + 1 < n) (hj : j < n) : sigN i j < n := by unfold sigN; split <;> (try split) <;> omega
theorem sigN_inj {i a b : Nat} (h : a ≠ b) : sigN i a ≠ sigN i b := by unfold sigN; split <;> split <;> (try split) <;> (try split) <;> omega
theorem swpN_get {o : Array Int} {i : Nat} (hi : i + 1 < o.size) (j : Nat) : (swpN o i)[j]! = o[sigN i j]! := by
  unfold swpN sigN
  by_cases h1 : j = i + 1
  · subst h1
    rw [getElem!_set_same _ _ _ (by simp; omega), if_neg (by omega), if_pos rfl]
  · rw [getElem!_set_other _ _ _ _ h1]
    by_cases h2 : j = i
    · subst h2
      rw [getElem!_set_same _ _ _ (by omega), if_pos rfl]
    · rw [getElem!_set_other _ _ _ _ h2, if_neg h2, if_neg h1]
theorem OrdOK.ne {n : Nat} {o : Array Int} (h : OrdOK n o) {a b : Nat} (ha : a < o.size) (hb : b < o.size) (hab : a ≠ b) : o[a]! ≠ o[b]! := by
  rcases Nat.lt_or_ge a b with h1 | h1
  · exact (h.2 b hb).2 a h1
  · exact fun e => (h.2 a ha).2 b (by omega) e.symm
theorem ord_swp {n : Nat} {o : Array Int} (h : OrdOK n o) {i : Nat} (hi : i + 1 < o.size) : OrdOK n (swpN o i) := by
  refine ⟨by rw [swpN_size, h.1], fun j hj => ?_⟩
  rw [swpN_size] at hj
  refine ⟨?_, fun k hk => ?_⟩
  · rw [swpN_get hi]
    exact (h.2 _ (sigN_lt hi hj)).1
  · rw [swpN_get hi, swpN_get hi]
    exact h.ne (sigN_lt hi (by omega)) (sigN_lt hi hj) (sigN_inj (by omega))

noncomputable def swapB (d : Array CaseD) (rest : Int) (o : Array Int) (i : Int) : Bool := ordS d rest o && decide (0 ≤ i ∧ i + 1 < o.size)
noncomputable def gainN (d : Array CaseD) (rest : Int) (o : Array Int) (i : Int) : Int := if swapB d rest o i = true then costN d rest o - costN d rest (swpN o i.toNat) else 0
theorem swapB_off {d : Array CaseD} {rest : Int} {o : Array Int} {i : Int} (h : ordS d rest o = false) : swapB d rest o i = false := by rw [swapB, h]; rfl
theorem swapB_out {d : Array CaseD} {rest : Int} {o : Array Int} {i : Int} (h : ¬ (0 ≤ i ∧ i + 1 < o.size)) : swapB d rest o i = false := by rw [swapB, decide_eq_false h, Bool.and_false]
theorem swapB_in {d : Array CaseD} {rest : Int} {o : Array Int} {i : Nat} (h : ordS d rest o = true) (hi : i + 1 < o.size) : swapB d rest o i = true := by
  rw [swapB, h, decide_eq_true (by omega)]; rfl
theorem gainN_no {d : Array CaseD} {rest : Int} {o : Array Int} {i : Int} (h : swapB d rest o i = false) : gainN d rest o i = 0 := by rw [gainN, if_neg (by rw [h]; exact Bool.false_ne_true)]
theorem gainN_in {d : Array CaseD} {rest : Int} {o : Array Int} {i : Nat} (h : ordS d rest o = true) (hi : i + 1 < o.size) : gainN d rest o i = costN d rest o - costN d rest (swpN o i) := by
  rw [gainN, if_pos (swapB_in h hi), Int.toNat_natCast]
theorem retIB {a c : Int} {b e : Bool} (h : a = c) (h2 : b = e) : Ending.returned (.tuple #[.int .i64 a, .bool b]) = .returned (.tuple #[.int .i64 c, .bool e]) := by rw [h, h2]

theorem cloneN_any (b cap : Nat) (o : Array Int) (w : World) (hR : RowN w b 0 o) (hn : o.size ≤ 1048576) :
    Calls Tryd.prog 60 #[.slice (some ⟨b, 0, none⟩) o.size cap] w fun e w' => ∃ v', e = .returned v' ∧ OwnsN w.heap.size v' o.toList w' ∧ v' ≠ .slice none 0 0 ∧ RowKit.Below w.heap.size w w' := by
  obtain ⟨i0, hi, hz0, hz1, hz2⟩ := info_parts infoN
  refine (AnyE.slices_Clone Tryd.laysCloneN i0 _ 1 8 hi hz0 hz1 hz2 rfl (by decide) Tryd.sizeOf3 b 0 o.size cap (o.toList.map encN) w (by simp) (by unfold maxLen; omega) (by omega)
    (fun j u hj => ?_) (fun u hu => ?_)).mono ?_
  · obtain ⟨hj', rfl⟩ := List.getElem?_eq_some_iff.1 hj
    have ht : j < o.size := by simpa using hj'
    rw [hR.cell j ht]
    simp [ht]
  · obtain ⟨x, _, rfl⟩ := List.mem_map.1 hu
    rfl
  · rintro e w' ⟨v', rfl, ho, hn2, hb⟩
    refine ⟨v', rfl, ?_, hn2, hb⟩
    unfold OwnsN
    rw [Array.length_toList]
    exact ho

set_option maxRecDepth 100000 in
set_option maxHeartbeats 2000000 in
theorem implSwap_any (b off cap : Nat) (d : Array CaseD) (rest i : Int) (bo co : Nat) (o : Array Int) (w : World) (hR : RowC w b off d) (hE : ErrAt w) (hcap : d.size ≤ cap) (hmax : cap ≤ maxLen) (hO : RowN w bo 0 o) (ho : o.size ≤ 1048576) :
    Calls Tryd.prog 32 #[.agg #[.slice (some ⟨b, off, none⟩) d.size cap, .int .i64 rest], .slice (some ⟨bo, 0, none⟩) o.size co, .int .i64 i] w fun x w' => x = .returned (.tuple #[.int .i64 (gainN d rest o i), .bool (swapB d rest o i)]) ∧ RowKit.Below w.heap.size w w' := by
  have hv := fun W (hW : RowKit.Below w.heap.size w W) => implOrder_any b off cap d rest bo co o W (hR.below hW) (hE.below hW) hcap hmax (hO.below hW) ho
  have HR := Lib.hid hR
  have HN := Lib.hid hO
  have ho' : (o.size : Int) ≤ 1048576 := by omega
  obtain ⟨wa, hwa⟩ : ∃ wa, wa = w.alloc (.cells #[.slice (some ⟨b, off, none⟩) d.size cap, .int .i64 rest] 30) := ⟨_, rfl⟩
  have c0 : wa.cell? ⟨w.heap.size, 0, none⟩ = some (.slice (some ⟨b, off, none⟩) d.size cap) := by rw [hwa]; simp
  have c1 : wa.cell? ⟨w.heap.size, 1, none⟩ = some (.int .i64 rest) := by rw [hwa]; simp
  have hz : w.heap.size < wa.heap.size := by rw [hwa]; simp
  have hba : RowKit.Below w.heap.size w wa := by rw [hwa]; exact (Below.refl _ _).alloc (Nat.le_refl _) _
  have HA := Lib.hid hba
  have C0 := Lib.hid c0
  have C1 := Lib.hid c1
  have HWA := Lib.hid hwa
  clear hba c0 c1 hwa hR hE hO
  cases hs : ordS d rest o
  all_goals
    simp only [hs] at hv
    have HV := Lib.hid hv
    have HS := Lib.hid hs
    clear hv hs
  · go_enter Tryd.func32, Tryd.ntmps32
    go_wp2_with fail
    rw [← HWA.out]
    refine (HV.out _ HA.out).mono ?_
    rintro x w1 ⟨rfl, hb⟩
    have HB := Lib.hid hb
    have hz1 := hb.size
    clear hb
    go_wp2
    go_ret2
    exact ⟨retIB (gainN_no (swapB_off HS.out)).symm (swapB_off HS.out).symm, HA.out.trans (HB.out.mono (by omega))⟩
  · obtain ⟨hok, hord⟩ := ordS_on HS.out
    have h8n : o.size ≤ 8 := by rw [hord.1]; exact hok.size
    have h8 : (o.size : Int) ≤ 8 := by omega
    by_cases hin : 0 ≤ i ∧ i + 1 < o.size
    · obtain ⟨k, rfl⟩ : ∃ k : Nat, i = k := ⟨i.toNat, by omega⟩
      have hk : k + 1 < o.size := by omega
      have HK := Lib.hid hk
      have hk0 : ((o.size : Int) - 1 ≤ (k : Int)) = False := by simp; omega
      have hk1 : (k : Int) < (o.size : Int) := by omega
      have hk2 : (k : Int) + 1 < (o.size : Int) := by omega
      have HG := Lib.hid (gainN_in HS.out hk)
      have HSB := Lib.hid (swapB_in HS.out hk)
      have hc1 := costN_le hok hord
      have hc2 := costN_le hok (ord_swp hord hk)
      have HOK := Lib.hid hok
      have HORD := Lib.hid hord
      clear hin hok hord hk
      go_enter Tryd.func32, Tryd.ntmps32
      go_wp2_with fail
      rw [← HWA.out]
      refine (HV.out _ HA.out).mono ?_
      rintro x w1 ⟨rfl, hb⟩
      have HB := Lib.hid hb
      have hz1 := hb.size
      have HWB := Lib.hid (HA.out.trans (HB.out.mono (by omega)))
      clear hb
      go_wp2_with fail
      refine (cloneN_any bo co o w1 (HN.out.below HWB.out) ho).mono ?_
      rintro x w2 ⟨v', rfl, ho2, hne, hb2⟩
      obtain ⟨g, cap', rfl, hg, hgs, hcap', hH⟩ := holds_owns ho2 (by intro h; have h2 := congrArg List.length h; simp at h2; have := HK.out; rw [h2] at this; simp at this)
      have hH2 : Holds encN w2 g 0 o := by simpa using hH
      have hol : o.toList.length = o.size := by simp
      rw [hol] at hcap' ⊢
      have HB2 := Lib.hid (HWB.out.trans (hb2.mono HWB.out.size))
      have x0 := (hH2 k (by have := HK.out; omega)).1
      have x1 := (hH2 (k + 1) HK.out).1
      have y0 := (hH2 k (by have := HK.out; omega)).2
      have y1 := (hH2 (k + 1) HK.out).2
      simp only [Nat.zero_add] at x0 x1 y0 y1
      obtain ⟨p, hp⟩ : ∃ p, p = o[k]! := ⟨_, rfl⟩
      obtain ⟨q, hq⟩ : ∃ q, q = o[k + 1]! := ⟨_, rfl⟩
      rw [← hp] at x0
      rw [← hq] at x1
      have HSW := Lib.hid (show swpN o k = (o.setIfInBounds k q).setIfInBounds (k + 1) p by rw [hp, hq]; rfl)
      have a0 := (hb2.cell (p := ⟨w.heap.size, 0, none⟩) (by omega : w.heap.size < w1.heap.size)).trans ((HB.out.cell (p := ⟨w.heap.size, 0, none⟩) hz).trans C0.out)
      have a1 := (hb2.cell (p := ⟨w.heap.size, 1, none⟩) (by omega : w.heap.size < w1.heap.size)).trans ((HB.out.cell (p := ⟨w.heap.size, 1, none⟩) hz).trans C1.out)
      have HH2 := Lib.hid hH2
      have hwg : w.heap.size ≠ g := by omega
      have hbg : b ≠ g := by have := HR.out.old; omega
      have hbog : bo ≠ g := by have := HN.out.old; omega
      have hne1 : ¬ k = k + 1 := by omega
      have hne2 : ¬ k + 1 = k := by omega
      clear ho2 hne hb2 hH hH2 hp hq hol
      go_wp2_with fail
      have hs1 : (0 : Int) ≤ (k : Int) := by omega
      have hs2 : IntKind.i64.wrap ((k : Int) + 1) = (k : Int) + 1 := IntWalk.i64_in _ (by omega)
      have hs3 : (0 : Int) ≤ (k : Int) + 1 := by omega
      have hs4 : ((k : Int) + 1).toNat = k + 1 := by omega
      go_region
      all_goals
        go_wp2_with fail
        have HB3 := Lib.hid (((HB2.out.setCell (p := ⟨g, k, none⟩) (by show w.heap.size ≤ g; omega) (.int .i64 q)).setCell (p := ⟨g, k + 1, none⟩) (by show w.heap.size ≤ g; omega) (.int .i64 p)).drew)
        have hrow := holds_setG encN (holds_setG encN HH2.out k q (by have := HK.out; omega)) (k + 1) p (by simp; exact HK.out)
        rw [← HSW.out] at hrow
        have b0 : ((w2.setCell ⟨g, k, none⟩ (.int .i64 q)).setCell ⟨g, k + 1, none⟩ (.int .i64 p)).drew.cell? ⟨w.heap.size, 0, none⟩ = some (.slice (some ⟨b, off, none⟩) d.size cap) := by simp [go_sem, hwg, a0]
        have b1 : ((w2.setCell ⟨g, k, none⟩ (.int .i64 q)).setCell ⟨g, k + 1, none⟩ (.int .i64 p)).drew.cell? ⟨w.heap.size, 1, none⟩ = some (.int .i64 rest) := by simp [go_sem, hwg, a1]
        have hs3 : ((w2.setCell ⟨g, k, none⟩ (.int .i64 q)).setCell ⟨g, k + 1, none⟩ (.int .i64 p)).drew.heap.size = w2.heap.size := by simp
        have hrow3 : RowN ((w2.setCell ⟨g, k, none⟩ (.int .i64 q)).setCell ⟨g, k + 1, none⟩ (.int .i64 p)).drew g 0 (swpN o k) := ⟨by rw [hs3]; exact hgs, fun j hj => (hrow j hj).1⟩
        generalize ((w2.setCell ⟨g, k, none⟩ (.int .i64 q)).setCell ⟨g, k + 1, none⟩ (.int .i64 p)).drew = w3 at HB3 b0 b1 hs3 hrow3 ⊢
        have hz3 : w.heap.size < w3.heap.size := by omega
        have hC1 := fun p : BW w3 => cost_any b off cap d rest bo co o p.W ((HR.out.below HB3.out).below p.h) ((HN.out.below HB3.out).below p.h) HOK.out HORD.out
        have hC2 := fun p : BW w3 => cost_any b off cap d rest g cap' (swpN o k) p.W ((HR.out.below HB3.out).below p.h) (hrow3.below p.h) HOK.out (ord_swp HORD.out HK.out)
        obtain ⟨v1, hv1⟩ : ∃ v1, v1 = costN d rest o := ⟨_, rfl⟩
        obtain ⟨v2, hv2⟩ : ∃ v2, v2 = costN d rest (swpN o k) := ⟨_, rfl⟩
        rw [← hv1] at hC1 hc1
        rw [← hv2] at hC2 hc2
        simp only [swpN_size] at hC2
        have HC1 := Lib.hid hC1
        have HC2 := Lib.hid hC2
        have HVV := Lib.hid (show gainN d rest o k = v1 - v2 by rw [HG.out, hv1, hv2])
        have q0 := fun p : BW w3 => p.cell (a := ⟨w.heap.size, 0, none⟩) hz3 b0
        have q1 := fun p : BW w3 => p.cell (a := ⟨w.heap.size, 1, none⟩) hz3 b1
        obtain ⟨hc11, hc12⟩ := hc1
        obtain ⟨hc21, hc22⟩ := hc2
        have hww : IntKind.i64.wrap (v1 - v2) = v1 - v2 := IntWalk.i64_in _ (by omega)
        clear hC1 hC2 hv1 hv2 b0 b1 a0 a1 x0 x1 y0 y1 hrow hrow3
        refine wp_region_bw (by kernel_rfl) (by kernel_rfl) ?_
        repeat (go_big_quiet_step (first | (go_at_call 52; (with_reducible refine bw_of (HC1.out _))) | (go_at_call 52; (with_reducible refine bw_of (HC2.out _)))))
        refine wpQuiet_nil ?_
        rintro _ ⟨pp, rfl⟩
        go_wp2
        go_ret2
        exact ⟨retIB HVV.out.symm HSB.out.symm, HB3.out.trans (pp.h.mono HB3.out.size)⟩
    · have HSB := Lib.hid (swapB_out (d := d) (rest := rest) hin)
      have hkk : i < 0 ∨ (0 ≤ i ∧ (o.size : Int) - 1 ≤ i) := by omega
      clear hok hord
      rcases hkk with hneg | ⟨hpos, hbig⟩
      all_goals
        clear hin
        go_enter Tryd.func32, Tryd.ntmps32
        go_wp2_with fail
        rw [← HWA.out]
        refine (HV.out _ HA.out).mono ?_
        rintro x w1 ⟨rfl, hb⟩
        have HB := Lib.hid hb
        have hz1 := hb.size
        clear hb
        go_wp2
        go_ret2
        exact ⟨retIB (gainN_no HSB.out).symm HSB.out.symm, HA.out.trans (HB.out.mono (by omega))⟩

/-! the model -/
set_option maxRecDepth 100000 in
set_option maxHeartbeats 2000000 in
theorem specSwap_any (b off cap : Nat) (d : Array CaseD) (rest i : Int) (bo co : Nat) (o : Array Int) (w : World) (hR : RowC w b off d) (hcap : d.size ≤ cap) (hmax : cap ≤ maxLen) (hO : RowN w bo 0 o) (ho : o.size ≤ 1048576) :
    Calls Tryd.prog 31 #[.agg #[.slice (some ⟨b, off, none⟩) d.size cap, .int .i64 rest], .slice (some ⟨bo, 0, none⟩) o.size co, .int .i64 i] w fun x w' => x = .returned (.tuple #[.int .i64 (gainN d rest o i), .bool (swapB d rest o i)]) ∧ RowKit.Below w.heap.size w w' := by
  have hv := fun W (hW : RowKit.Below w.heap.size w W) => specOrder_any b off cap d rest bo co o W (hR.below hW) hcap hmax (hO.below hW) ho
  have HR := Lib.hid hR
  have HN := Lib.hid hO
  have ho' : (o.size : Int) ≤ 1048576 := by omega
  obtain ⟨wa, hwa⟩ : ∃ wa, wa = w.alloc (.cells #[.slice (some ⟨b, off, none⟩) d.size cap, .int .i64 rest] 30) := ⟨_, rfl⟩
  have c0 : wa.cell? ⟨w.heap.size, 0, none⟩ = some (.slice (some ⟨b, off, none⟩) d.size cap) := by rw [hwa]; simp
  have c1 : wa.cell? ⟨w.heap.size, 1, none⟩ = some (.int .i64 rest) := by rw [hwa]; simp
  have hz : w.heap.size < wa.heap.size := by rw [hwa]; simp
  have hba : RowKit.Below w.heap.size w wa := by rw [hwa]; exact (Below.refl _ _).alloc (Nat.le_refl _) _
  have HA := Lib.hid hba
  have C0 := Lib.hid c0
  have C1 := Lib.hid c1
  have HWA := Lib.hid hwa
  obtain ⟨i0, hi, hi0, hi1, hi2⟩ := info_parts infoN
  clear hba c0 c1 hwa hR hO
  cases hs : ordS d rest o
  all_goals
    simp only [hs] at hv
    have HV := Lib.hid hv
    have HS := Lib.hid hs
    clear hv hs
  · go_enter Tryd.func31, Tryd.ntmps31
    go_wp2_with fail
    rw [← HWA.out]
    refine (HV.out _ HA.out).mono ?_
    rintro x w1 ⟨rfl, hb⟩
    have HB := Lib.hid hb
    have hz1 := hb.size
    clear hb
    go_wp2
    go_ret2
    exact ⟨retIB (gainN_no (swapB_off HS.out)).symm (swapB_off HS.out).symm, HA.out.trans (HB.out.mono (by omega))⟩
  · obtain ⟨hok, hord⟩ := ordS_on HS.out
    have h8n : o.size ≤ 8 := by rw [hord.1]; exact hok.size
    have h8 : (o.size : Int) ≤ 8 := by omega
    by_cases hin : 0 ≤ i ∧ i + 1 < o.size
    · obtain ⟨k, rfl⟩ : ∃ k : Nat, i = k := ⟨i.toNat, by omega⟩
      have hk : k + 1 < o.size := by omega
      have HK := Lib.hid hk
      have hiv : inB k 0 ((o.size : Int) - 2) = true := by simp [inB]; omega
      have HIN := Lib.hid (fun W => hiv ▸ l1In_any k 0 ((o.size : Int) - 2) W)
      have hk1 : (k : Int) < (o.size : Int) := by omega
      have hk2 : (k : Int) + 1 < (o.size : Int) := by omega
      have HG := Lib.hid (gainN_in HS.out hk)
      have HSB := Lib.hid (swapB_in HS.out hk)
      have hc1 := costN_le hok hord
      have hc2 := costN_le hok (ord_swp hord hk)
      have HOK := Lib.hid hok
      have HORD := Lib.hid hord
      have hs1 : (0 : Int) ≤ (k : Int) := by omega
      have hs2 : IntKind.i64.wrap ((k : Int) + 1) = (k : Int) + 1 := IntWalk.i64_in _ (by omega)
      have hs3 : (0 : Int) ≤ (k : Int) + 1 := by omega
      have hs4 : ((k : Int) + 1).toNat = k + 1 := by omega
      clear hin hok hord hk hiv
      go_enter Tryd.func31, Tryd.ntmps31
      go_wp2_with fail
      rw [← HWA.out]
      refine (HV.out _ HA.out).mono ?_
      rintro x w1 ⟨rfl, hb⟩
      have HB := Lib.hid hb
      have hz1 := hb.size
      have HWB := Lib.hid (HA.out.trans (HB.out.mono (by omega)))
      clear hb
      have hcl : ∀ j u, (o.toList.map encN)[j]? = some u → (w1.alloc (.cells #[] 3)).cell? ((⟨bo, 0, none⟩ : Addr).add j) = some u := fun j u hj => by
        obtain ⟨hj', rfl⟩ := List.getElem?_eq_some_iff.1 hj
        have ht : j < o.size := by simpa using hj'
        rw [Addr.add_lit]
        have hx := ((HN.out.below HWB.out).below ((Below.refl w1.heap.size w1).alloc (Nat.le_refl _) (.cells #[] 3))).cell j ht
        rw [hx]
        simp [ht]
      have hon : ∀ u ∈ o.toList.map encN, u.oneCell' = true := fun u hu => by
        obtain ⟨x, _, rfl⟩ := List.mem_map.1 hu
        rfl
      have HCL := Lib.hid hcl
      have HON := Lib.hid hon
      clear hcl hon
      go_wp2_with (first
        | (go_at_call 42; refine (HIN.out _).mono ?_; rintro y w2 ⟨rfl, rfl⟩)
        | (at_builtin; refine wpList_append_own _ rfl _ _ 25 rfl w1.heap.size 3 i0 (.int .i64 0) 1 8 Tryd.underlying25 hi hi0 hi1 hi2 rfl (by decide) _ _ _ rfl (World.ownsRow_made w1 #[] 0 (Nat.le_refl _) (Nat.zero_le _) (by simp)) ⟨bo, 0, none⟩ o.size co (o.toList.map encN) rfl ?c0 HCL.out HON.out ?c3 ?c4 ?c5 ?_))
      case c0 => simp
      case c3 => unfold maxLen; omega
      case c4 => omega
      case c5 => simp
      intro v' w2 hown hgrow _
      have ho2 : OwnsN w1.heap.size v' o.toList w2 := by
        unfold OwnsN
        rw [Array.length_toList]
        simpa using hown
      obtain ⟨g, cap', rfl, hg, hgs, hcap', hH⟩ := holds_owns ho2 (by intro h; have h2 := congrArg List.length h; simp at h2; have := HK.out; rw [h2] at this; simp at this)
      have hH2 : Holds encN w2 g 0 o := by simpa using hH
      have hol : o.toList.length = o.size := by simp
      rw [hol] at hcap' ⊢
      have hb2 : RowKit.Below w1.heap.size w1 w2 := ((Below.refl w1.heap.size w1).alloc (Nat.le_refl _) _).grown hgrow (by simp) (fun q hq => by simp [Value.ownBlock] at hq; omega)
      have HB2 := Lib.hid (HWB.out.trans (hb2.mono HWB.out.size))
      have hON := HN.out.below HB2.out
      have x0 := hON.cell k (by have := HK.out; omega)
      have x1 := hON.cell (k + 1) HK.out
      have z0 := (hH2 k (by have := HK.out; omega)).1
      have z1 := (hH2 (k + 1) HK.out).1
      have y0 := (hH2 k (by have := HK.out; omega)).2
      have y1 := (hH2 (k + 1) HK.out).2
      simp only [Nat.zero_add] at x0 x1 y0 y1 z0 z1
      obtain ⟨p, hp⟩ : ∃ p, p = o[k]! := ⟨_, rfl⟩
      obtain ⟨q, hq⟩ : ∃ q, q = o[k + 1]! := ⟨_, rfl⟩
      rw [← hp] at x0 z0
      rw [← hq] at x1 z1
      have HSW := Lib.hid (show swpN o k = (o.setIfInBounds k q).setIfInBounds (k + 1) p by rw [hp, hq]; rfl)
      have a0 := (hb2.cell (p := ⟨w.heap.size, 0, none⟩) (by omega : w.heap.size < w1.heap.size)).trans ((HB.out.cell (p := ⟨w.heap.size, 0, none⟩) hz).trans C0.out)
      have a1 := (hb2.cell (p := ⟨w.heap.size, 1, none⟩) (by omega : w.heap.size < w1.heap.size)).trans ((HB.out.cell (p := ⟨w.heap.size, 1, none⟩) hz).trans C1.out)
      have HH2 := Lib.hid hH2
      have hwg : w.heap.size ≠ g := by omega
      have hbg : b ≠ g := by have := HR.out.old; omega
      have hbog : bo ≠ g := by have := HN.out.old; omega
      have hne1 : ¬ k = k + 1 := by omega
      have hne2 : ¬ k + 1 = k := by omega
      clear ho2 hb2 hH hH2 hp hq hol hown hgrow hON
      go_wp2_with fail
      have HB3 := Lib.hid ((HB2.out.setCell (p := ⟨g, k, none⟩) (by show w.heap.size ≤ g; omega) (.int .i64 q)).setCell (p := ⟨g, k + 1, none⟩) (by show w.heap.size ≤ g; omega) (.int .i64 p))
      have hrow := holds_setG encN (holds_setG encN HH2.out k q (by have := HK.out; omega)) (k + 1) p (by simp; exact HK.out)
      rw [← HSW.out] at hrow
      have b0 : ((w2.setCell ⟨g, k, none⟩ (.int .i64 q)).setCell ⟨g, k + 1, none⟩ (.int .i64 p)).cell? ⟨w.heap.size, 0, none⟩ = some (.slice (some ⟨b, off, none⟩) d.size cap) := by simp [go_sem, hwg, a0]
      have b1 : ((w2.setCell ⟨g, k, none⟩ (.int .i64 q)).setCell ⟨g, k + 1, none⟩ (.int .i64 p)).cell? ⟨w.heap.size, 1, none⟩ = some (.int .i64 rest) := by simp [go_sem, hwg, a1]
      have hs3 : ((w2.setCell ⟨g, k, none⟩ (.int .i64 q)).setCell ⟨g, k + 1, none⟩ (.int .i64 p)).heap.size = w2.heap.size := by simp
      have hrow3 : RowN ((w2.setCell ⟨g, k, none⟩ (.int .i64 q)).setCell ⟨g, k + 1, none⟩ (.int .i64 p)) g 0 (swpN o k) := ⟨by rw [hs3]; exact hgs, fun j hj => (hrow j hj).1⟩
      generalize (w2.setCell ⟨g, k, none⟩ (.int .i64 q)).setCell ⟨g, k + 1, none⟩ (.int .i64 p) = w3 at HB3 b0 b1 hs3 hrow3 ⊢
      have hz3 : w.heap.size < w3.heap.size := by omega
      have hord2 : ordS d rest (swpN o k) = true := by
        rw [ordS, (swB_iff _ _).2 HOK.out, (ordB_iff _ _).2 (ord_swp HORD.out HK.out)]
        rfl
      have hC1 := fun p : BW w3 => specCost_any b off cap d rest bo co o p.W ((HR.out.below HB3.out).below p.h) hcap hmax ((HN.out.below HB3.out).below p.h) ho
      have hC2 := fun p : BW w3 => specCost_any b off cap d rest g cap' (swpN o k) p.W ((HR.out.below HB3.out).below p.h) hcap hmax (hrow3.below p.h) (by rw [swpN_size]; exact ho)
      rw [chainN_on HS.out] at hC1
      rw [chainN_on hord2] at hC2
      obtain ⟨v1, hv1⟩ : ∃ v1, v1 = costN d rest o := ⟨_, rfl⟩
      obtain ⟨v2, hv2⟩ : ∃ v2, v2 = costN d rest (swpN o k) := ⟨_, rfl⟩
      rw [← hv1] at hC1 hc1
      rw [← hv2] at hC2 hc2
      simp only [swpN_size] at hC2
      have HC1 := Lib.hid hC1
      have HC2 := Lib.hid hC2
      have HVV := Lib.hid (show gainN d rest o k = v1 - v2 by rw [HG.out, hv1, hv2])
      have q0 := fun p : BW w3 => p.cell (a := ⟨w.heap.size, 0, none⟩) hz3 b0
      have q1 := fun p : BW w3 => p.cell (a := ⟨w.heap.size, 1, none⟩) hz3 b1
      obtain ⟨hc11, hc12⟩ := hc1
      obtain ⟨hc21, hc22⟩ := hc2
      have hww : IntKind.i64.wrap (v1 - v2) = v1 - v2 := IntWalk.i64_in _ (by omega)
      clear hC1 hC2 hv1 hv2 b0 b1 a0 a1 x0 x1 y0 y1 z0 z1 hrow hrow3 hord2
      refine wp_region_bw (by kernel_rfl) (by kernel_rfl) ?_
      repeat (go_big_quiet_step (first | (go_at_call 22; (with_reducible refine bw_of (HC1.out _))) | (go_at_call 22; (with_reducible refine bw_of (HC2.out _)))))
      refine wpQuiet_nil ?_
      rintro _ ⟨pp, rfl⟩
      go_wp2
      go_ret2
      exact ⟨retIB HVV.out.symm HSB.out.symm, HB3.out.trans (pp.h.mono HB3.out.size)⟩
    · have HSB := Lib.hid (swapB_out (d := d) (rest := rest) hin)
      have hiv : inB i 0 ((o.size : Int) - 2) = false := by simp [inB]; omega
      have HIN := Lib.hid (fun W => hiv ▸ l1In_any i 0 ((o.size : Int) - 2) W)
      clear hok hord hin hiv
      go_enter Tryd.func31, Tryd.ntmps31
      go_wp2_with fail
      rw [← HWA.out]
      refine (HV.out _ HA.out).mono ?_
      rintro x w1 ⟨rfl, hb⟩
      have HB := Lib.hid hb
      have hz1 := hb.size
      clear hb
      go_wp2_with (go_at_call 42; refine (HIN.out _).mono ?_; rintro y w2 ⟨rfl, rfl⟩)
      go_ret2
      exact ⟨retIB (gainN_no HSB.out).symm HSB.out.symm, HA.out.trans (HB.out.mono (by omega))⟩
end Go.Proofs.YthchhgjnelkmhaaDoor
