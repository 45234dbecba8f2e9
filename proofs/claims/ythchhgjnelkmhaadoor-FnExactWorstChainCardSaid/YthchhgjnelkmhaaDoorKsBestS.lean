/- slices.SortStableFunc on at most eight indices, by any comparison; BestChain of the program. -/
import Derived.Test.YthchhgjnelkmhaaDoorKsBestD
import Derived.Test.YthchhgjnelkmhaaDoorKsHasAll
import Derived.Test.YthchhgjnelkmhaaDoorKsReachC
import Derived.Test.YthchhgjnelkmhaaDoorKsValid
namespace Go.Proofs.YthchhgjnelkmhaaDoor
open Go.RowKit Go.Shelf Go.Lib Go.Sort

set_option maxHeartbeats 1000000 in
theorem stableN_any (g cap : Nat) (d : Array Int) (w : World) (hH : BoxN w g d) (hn : d.size ≤ 8) (fg : Nat) (cb : Array Value) (cf : Int → Int → Int) (Ok : Int → Prop)
    (hC : ∀ x y W, Ok x → Ok y → w.grownBy W (some g) → Calls Tryd.prog fg (#[.int .i64 x, .int .i64 y] ++ cb) W fun e w' => e = .returned (.int .i64 (cf x y)) ∧ RowKit.Below W.heap.size W w')
    (hO : ∀ j, j < d.size → Ok d[j]!) (hgs : g < w.heap.size) (eg : ∀ args w, (callFunc fg args).run Tryd.prog w = .ok (.enter fg args) w) :
    Calls Tryd.prog 74 #[.slice (some ⟨g, 0, none⟩) d.size cap, .int .i64 d.size, .func (.func fg) #[] cb] w fun e w' => e = .returned (.tuple #[]) ∧ BoxN w' g (insertionSort (ltOf cf) d 0 d.size) ∧ w.grownBy w' (some g) := by
  have hcon := Lib.hid (insCmp_any g cap d w hH (by omega) fg cb cf Ok hC hO hgs eg)
  clear hH hC hO eg
  generalize insertionSort (ltOf cf) d 0 d.size = r at hcon ⊢
  have b1 : (d.size : Int) ≤ 8 := by omega
  go_enter Tryd.func74, Tryd.ntmps74
  go_wp2
  refine wp_loop_rounds 1 ?_
  rw [rounds_succ]
  go_wp2_with (go_at_call 88; refine hcon.out.mono ?_; rintro e w' ⟨rfl, h1, h2⟩; have H1 := Lib.hid h1; have H2 := Lib.hid h2; clear h1 h2)
  refine wp_loop_rounds 1 ?_
  rw [rounds_succ]
  go_wp2
  go_end0
  exact ⟨rfl, H1.out, H2.out⟩

set_option maxHeartbeats 400000 in
theorem sortStableN_any (g cap : Nat) (d : Array Int) (w : World) (hH : BoxN w g d) (hn : d.size ≤ 8) (fg : Nat) (cb : Array Value) (cf : Int → Int → Int) (Ok : Int → Prop)
    (hC : ∀ x y W, Ok x → Ok y → w.grownBy W (some g) → Calls Tryd.prog fg (#[.int .i64 x, .int .i64 y] ++ cb) W fun e w' => e = .returned (.int .i64 (cf x y)) ∧ RowKit.Below W.heap.size W w')
    (hO : ∀ j, j < d.size → Ok d[j]!) (hgs : g < w.heap.size) (eg : ∀ args w, (callFunc fg args).run Tryd.prog w = .ok (.enter fg args) w) :
    Calls Tryd.prog 55 #[.slice (some ⟨g, 0, none⟩) d.size cap, .func (.func fg) #[] cb] w fun e w' => e = .returned (.tuple #[]) ∧ BoxN w' g (insertionSort (ltOf cf) d 0 d.size) ∧ w.grownBy w' (some g) := by
  have hcon := Lib.hid (stableN_any g cap d w hH hn fg cb cf Ok hC hO hgs eg)
  clear hH hC hO eg
  generalize insertionSort (ltOf cf) d 0 d.size = r at hcon ⊢
  go_enter Tryd.func55, Tryd.ntmps55
  go_wp2_with (go_at_call 74; refine hcon.out.mono ?_; rintro e w' ⟨rfl, h1, h2⟩; have H1 := Lib.hid h1; have H2 := Lib.hid h2; clear h1 h2)
  go_end0
  exact ⟨rfl, H1.out, H2.out⟩

set_option maxRecDepth 100000 in
set_option maxHeartbeats 1000000 in
theorem firstBox_any (n : Nat) (w : World) (hn : n ≤ 8) :
    Calls Tryd.prog 54 #[.int .i64 n] w fun x w' => x = .returned (.slice (some ⟨w.heap.size, 0, none⟩) n n) ∧ BoxN w' w.heap.size (upTo n) ∧ RowKit.Below w.heap.size w w' := by
  have hn' : (n : Int) ≤ 8 := by omega
  have hmk := run_makeChain n (by omega)
  go_enter Tryd.func54, Tryd.ntmps54
  go_wp2
  have hH0 := BoxN.made n w w.heap.size rfl
  obtain ⟨wa, hwa⟩ : ∃ wa, wa = w.alloc (.cells (madeCells #[.int .i64 0] n) 3) := ⟨_, rfl⟩
  rw [← hwa] at hH0
  have hz : w.heap.size < wa.heap.size := by rw [hwa]; simp
  have hba : RowKit.Below w.heap.size w wa := by rw [hwa]; exact (Below.refl _ _).alloc (Nat.le_refl _) _
  rw [← hwa]
  have HH0 := Lib.hid hH0
  have HB := Lib.hid hba
  clear hwa hba hH0 hmk
  obtain ⟨g, hg⟩ : ∃ g, g = w.heap.size := ⟨_, rfl⟩
  rw [← hg] at HH0 hz ⊢
  have HG := Lib.hid hg
  clear hg
  go_loopw [9] (fun i wr => ∃ (k : Nat) (A : Array Int), i = .int .i64 k ∧ k ≤ n ∧ Hid (A.size = n) ∧ Hid (BoxN wr g A) ∧ Hid (∀ j, j < k → A[j]! = (j : Int)) ∧ Hid (RowKit.Below g w wr) ∧ wa.heap.size ≤ wr.heap.size) (fun i _ => n - (Lib.intOf i).toNat)
  case atStart => exact ⟨0, _, rfl, Nat.zero_le _, by simp [Hid], HH0.out, (show Hid _ from fun j hj => absurd hj (Nat.not_lt_zero _)), (show RowKit.Below g w wa by rw [HG.out]; exact HB.out), Nat.le_refl _⟩
  case round =>
    obtain ⟨k, A, rfl, hk, HAZ, HH, HM, HW, hw2⟩ := hrel
    by_cases hlt : k < n
    · have hkA : k < A.size := by rw [HAZ.out]; exact hlt
      have y0 := (HH.out.holds k hkA).1
      have y1 := (HH.out.holds k hkA).2
      simp only [Nat.zero_add] at y0 y1
      have HKA := Lib.hid hkA
      clear hkA
      go_wp2
      go_roundw
      case rel =>
        refine ⟨k + 1, A.setIfInBounds k k, by go_num, by omega, (show _ = _ by simpa using HAZ.out), HH.out.set k k, (show Hid _ from fun j hj => ?_), HW.out.setCell (p := ⟨g, k, none⟩) (Nat.le_refl _) _, by simpa [World.setCell] using hw2⟩
        by_cases e : j = k
        · subst e
          rw [getElem!_set_same _ _ _ HKA.out]
        · rw [getElem!_set_other _ _ _ _ e]
          exact HM.out j (by omega)
      case measure => simp [Lib.intOf]; omega
    · go_wp2
      go_ret
      have e : A = upTo n := Array.ext (by rw [HAZ.out, upTo_size]) fun j h1 h2 => by
        have hj : j < n := by rw [HAZ.out] at h1; exact h1
        have e1 : A[j] = A[j]! := by simp [h1]
        have e2 : (upTo n)[j] = (upTo n)[j]! := by simp [h2]
        rw [e1, e2, upTo_get hj]
        exact HM.out j (by omega)
      rw [← HG.out]
      exact ⟨rfl, e ▸ HH.out, HW.out⟩


/-- What BestChain answers: the sorted indices, or none. -/
def bestCf (d : Array CaseD) : Int → Int → Int := worthX d
def bestO (d : Array CaseD) : Array Int := insertionSort (ltOf (worthX d)) (upTo d.size) 0 d.size
theorem bestO_size (d : Array CaseD) : (bestO d).size = d.size := by
  have h := best_sort (ltOf (worthX d)) d.size
  unfold bestO
  rw [h, bestTo_size]
noncomputable def bestN (d : Array CaseD) (rest : Int) : List Int := if swB d rest = true then (bestO d).toList else []

theorem RowC.keptG {W W' : World} {g off : Nat} {d : Array CaseD} {row : Option Nat} (h : RowC W g off d) (hg : W.grownBy W' row) (hne : some g ≠ row) : RowC W' g off d := by
  have hc : ∀ j, W'.cell? ⟨g, j, none⟩ = W.cell? ⟨g, j, none⟩ := fun j => World.cell?_of_block (w := W) (hg.block g h.old hne)
  exact ⟨Nat.lt_of_lt_of_le h.old hg.size, fun j hj => (hc _).trans (h.low j hj), fun j hj => (hc _).trans (h.high j hj), fun j hj => (hc _).trans (h.target j hj), fun j hj => (hc _).trans (h.weight j hj)⟩

set_option maxRecDepth 100000 in
set_option maxHeartbeats 1000000 in
theorem implBest_any (b off cap : Nat) (d : Array CaseD) (rest : Int) (w : World) (hR : RowC w b off d) (hE : ErrAt w) (hcap : d.size ≤ cap) (hmax : cap ≤ maxLen) :
    Calls Tryd.prog 25 #[.agg #[.slice (some ⟨b, off, none⟩) d.size cap, .int .i64 rest]] w (Ints2 w.heap.size (bestN d rest) (swB d rest) w) := by
  have hv := fun W (hW : RowKit.Below w.heap.size w W) => switchValid_any b off cap d rest W (hR.below hW) (hE.below hW) hcap hmax
  have HR := Lib.hid hR
  obtain ⟨wa, hwa⟩ : ∃ wa, wa = w.alloc (.cells #[.slice (some ⟨b, off, none⟩) d.size cap, .int .i64 rest] 30) := ⟨_, rfl⟩
  have c0 : wa.cell? ⟨w.heap.size, 0, none⟩ = some (.slice (some ⟨b, off, none⟩) d.size cap) := by rw [hwa]; simp
  have c1 : wa.cell? ⟨w.heap.size, 1, none⟩ = some (.int .i64 rest) := by rw [hwa]; simp
  have hz : wa.heap.size = w.heap.size + 1 := by rw [hwa]; simp
  have hba : RowKit.Below w.heap.size w wa := by rw [hwa]; exact (Below.refl _ _).alloc (Nat.le_refl _) _
  have HA := Lib.hid hba
  have C0 := Lib.hid c0
  have C1 := Lib.hid c1
  have HWA := Lib.hid hwa
  have HI2 := Lib.hid (show Ints2 w.heap.size (bestN d rest) (swB d rest) w = fun x w' => ∃ v, x = .returned (.tuple #[v, .bool (swB d rest)]) ∧ OwnsN w.heap.size v (bestN d rest) w' ∧ RowKit.Below w.heap.size w w' from rfl)
  clear hba c0 c1 hwa hR hE
  rw [HI2.out]
  cases hs : swB d rest
  all_goals
    simp only [hs] at hv
    have HV := Lib.hid hv
    have HS := Lib.hid hs
    clear hv hs
    go_enter Tryd.func25, Tryd.ntmps25
    go_wp2_with fail
    rw [← HWA.out]
    refine (HV.out _ HA.out).mono ?_
    rintro x w1 ⟨rfl, hb⟩
    have HB := Lib.hid hb
    have hz1 := hb.size
    have a0 := (hb.cell (p := ⟨w.heap.size, 0, none⟩) (by omega : w.heap.size < wa.heap.size)).trans C0.out
    have a1 := (hb.cell (p := ⟨w.heap.size, 1, none⟩) (by omega : w.heap.size < wa.heap.size)).trans C1.out
    have HWB := Lib.hid (HA.out.trans (HB.out.mono (by omega)))
    clear hb
    have hwz : w.heap.size < w1.heap.size := by omega
    have HOK := Lib.hid (fun h : swB d rest = true => (swB_iff d rest).1 h)
    go_wp2_with fail
  · go_ret2
    refine ⟨_, rfl, ?_, HWB.out⟩
    rw [bestN, if_neg (by rw [HS.out]; simp)]
    exact World.ownsRow_nil _ _ _ _
  · have HOK := Lib.hid (HOK.out HS.out)
    refine (firstBox_any d.size w1 HOK.out.size).mono ?_
    rintro x w2 ⟨rfl, hbx, hb2⟩
    have hg1 : w.heap.size ≤ w1.heap.size := HWB.out.size
    have hbl : b < w1.heap.size := Nat.lt_of_lt_of_le HR.out.old hg1
    have HR2 := Lib.hid (HR.out.below (HWB.out.trans (hb2.mono hg1)))
    have HW2 := Lib.hid (HWB.out.trans (hb2.mono hg1))
    have s0 := (hb2.cell (p := ⟨w.heap.size, 0, none⟩) hwz).trans a0
    have hgs := hbx.lt
    have hsort := sortStableN_any w1.heap.size d.size (upTo d.size) w2 hbx (by rw [upTo_size]; exact HOK.out.size) 56 #[.pointer (some ⟨w.heap.size, 0, none⟩)] (worthX d) (fun z => ∃ k : Nat, z = k ∧ k < d.size)
      (by
        rintro x y W ⟨x', rfl, hx⟩ ⟨y', rfl, hy⟩ hg
        have hr : RowC W b off d := HR2.out.keptG hg (by intro e; cases e; omega)
        have hc : W.cell? ⟨w.heap.size, 0, none⟩ = some (.slice (some ⟨b, off, none⟩) d.size cap) := (World.cell?_of_block (w := w2) (hg.block w.heap.size (by omega) (by intro e; have e2 : w.heap.size = w1.heap.size := Option.some.inj e; omega))).trans s0
        exact bestCmp_any b off cap w.heap.size d rest x' y' W hr (Nat.lt_of_lt_of_le (by omega) hg.size) hc HOK.out hx hy)
      (fun j hj => ⟨j, upTo_get (by rw [upTo_size] at hj; exact hj), by rw [upTo_size] at hj; exact hj⟩) hgs (enters_of Tryd.func56 (by kernel_rfl) rfl)
    rw [upTo_size] at hsort
    have HSORT := Lib.hid hsort
    have HB2 := Lib.hid hb2
    clear hsort hbx hb2 s0 a0 a1
    go_wp2_with fail
    refine HSORT.out.mono ?_
    rintro x w3 ⟨rfl, hbo, hg3⟩
    change BoxN w3 w1.heap.size (bestO d) at hbo
    have HBO := Lib.hid hbo
    have HG3 := Lib.hid hg3
    clear hbo hg3
    go_wp2
    go_ret2
    refine ⟨_, rfl, ?_, HW2.out.grown HG3.out HW2.out.size (by rintro k e; cases e; exact hg1)⟩
    have e := HBO.out.owns (base := w.heap.size) hg1 (by rw [bestO_size]; have := HOK.out.size; omega)
    rw [bestO_size] at e
    rw [bestN, if_pos HS.out]
    exact e
end Go.Proofs.YthchhgjnelkmhaaDoor
