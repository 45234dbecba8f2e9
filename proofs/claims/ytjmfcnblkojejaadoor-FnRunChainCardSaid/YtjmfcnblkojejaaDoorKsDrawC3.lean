
/- The draws of chapter 3: a switch and mostly an order of its cases. · The draws of chapter 3, on: a switch and mostly an order of its cases (and a key); a switch and a number. -/
import Derived.Test.YtjmfcnblkojejaaDoorKsDrawF
import Derived.Test.YtjmfcnblkojejaaDoorKsVals
namespace Go.Proofs.YtjmfcnblkojejaaDoor
open Go.RowKit Go.Shelf Go.Lib Go.Sort

theorem infoNR : (Tryd.prog.info? 3).map (fun i => (i.zero, i.size, i.bytes)) = some (some (.int .i64 0), 1, 8) := by kernel_rfl
theorem cells_oneR {W : World} {b : Nat} {v : Value} (hc : W.cell? ⟨b, 0, none⟩ = some v) : ∀ j u, [v][j]? = some u → W.cell? ((⟨b, 0, none⟩ : Addr).add j) = some u := by
  intro j u hj
  match j, hj with
  | 0, hj => simp at hj; subst hj; simpa [Addr.add] using hc
theorem one_mapR (l : List Int) : ∀ u ∈ l.map encN, u.oneCell' = true := fun u hu => by
  obtain ⟨x, _, rfl⟩ := List.mem_map.1 hu
  rfl
theorem addR (g o j : Nat) : (⟨g, o, none⟩ : Addr).add j = ⟨g, o + j, none⟩ := by
  unfold Addr.add
  split
  · next h => simp_all
  · rfl
theorem cells_takeR {L : List Int} {i g k : Nat} {W : World} (hc : ∀ j, j < i → W.cell? ⟨g, j, none⟩ = (L.map encN)[j]?) (_ : L.length = i) (hk : k ≤ i) : ∀ j u, ((L.take k).map encN)[j]? = some u → W.cell? ((⟨g, 0, none⟩ : Addr).add j) = some u := by
  intro j u hu
  rw [List.map_take, List.getElem?_take] at hu
  split at hu
  · rw [addR, Nat.zero_add, hc j (by omega)]; exact hu
  · cases hu
theorem cells_dropR {L : List Int} {i g k cp : Nat} {W : World} (hc : ∀ j, j < i → W.cell? ⟨g, j, none⟩ = (L.map encN)[j]?) (hL : L.length = i) (hi : i ≤ cp) : ∀ j u, ((L.drop k).map encN)[j]? = some u → W.cell? ((⟨g, if cp = k then 0 else k, none⟩ : Addr).add j) = some u := by
  intro j u hu
  rw [List.map_drop, List.getElem?_drop] at hu
  have hlt : k + j < i := by
    have := (List.getElem?_eq_some_iff.1 hu).1
    rwa [List.length_map, hL] at this
  rw [if_neg (by omega), addR, hc _ hlt]
  exact hu
theorem draw_next {L : List Int} {i k base b0 : Nat} {v : Value} {W : World} (hb : b0 ≤ base) (hL : L.length = i) (hk : k ≤ i)
    (h : W.ownsRow base 3 1 v (0 + k + 1 + (i - k)) ([] ++ (L.take k).map encN ++ [.int .i64 (i : Int)] ++ (L.drop k).map encN)) :
    ∃ g cap, v = .slice (some ⟨g, 0, none⟩) (i + 1) cap ∧ i + 1 ≤ cap ∧ cap ≤ maxLen ∧ g < W.heap.size ∧ base ≤ g ∧ (L.take k ++ [(i : Int)] ++ L.drop k).length = i + 1 ∧ OwnsN b0 (.slice (some ⟨g, 0, none⟩) (i + 1) cap) (L.take k ++ [(i : Int)] ++ L.drop k) W := by
  have hn : 0 + k + 1 + (i - k) = i + 1 := by omega
  have hl : [] ++ (L.take k).map encN ++ [.int .i64 (i : Int)] ++ (L.drop k).map encN = (L.take k ++ [(i : Int)] ++ L.drop k).map encN := by
    rw [List.map_append, List.map_append]
    rfl
  have hlen : (L.take k ++ [(i : Int)] ++ L.drop k).length = i + 1 := by
    simp only [List.length_append, List.length_take, List.length_drop, List.length_cons, List.length_nil]
    omega
  rw [hn, hl] at h
  rcases h.2 with ⟨_, h0⟩ | ⟨g, cap, cur, rfl, hg, hh, hc, hm, hs, ht⟩
  · omega
  · refine ⟨g, cap, rfl, hc, hm, (Array.getElem?_eq_some_iff.1 hh).1, hg, hlen, ?_⟩
    unfold OwnsN
    rw [hlen]
    exact ⟨h.1, .inr ⟨g, cap, cur, rfl, Nat.le_trans hb hg, hh, hc, hm, hs, ht⟩⟩
theorem ownsN_cellR {L : List Int} {i g cp base : Nat} {w : World} (h : OwnsN base (.slice (some ⟨g, 0, none⟩) i cp) L w) (hL : L.length = i) : ∀ j, j < i → w.cell? ⟨g, j, none⟩ = (L.map encN)[j]? := fun j hj => by
  have h' : w.ownsRow base 3 1 (.slice (some ⟨g, 0, none⟩) i cp) i (L.map encN) := by subst hL; exact h
  exact World.ownsRow.cellAt h' j (by omega)

/-- Numbers have been drawn; the source lies in block g. -/
def DrewN (g p n : Nat) (w : World) (x : Ending) (w' : World) : Prop := ∃ (L : List Int) (go co : Nat), L.length ≤ n ∧ x = .returned (.slice (some ⟨go, 0, none⟩) L.length co) ∧ OwnsN w.heap.size (.slice (some ⟨go, 0, none⟩) L.length co) L w' ∧ w.heap.size ≤ go ∧ RdAt w' g p ∧ w.grownBy w' (some g)

set_option maxRecDepth 100000 in
set_option maxHeartbeats 4000000 in
theorem l3Draw_any (g p n : Nat) (w : World) (h : RdAt w g p) (hp : p ≤ 30000) (hn : n ≤ 9) :
    Calls Tryd.prog 113 #[.pointer (some ⟨g, 0, none⟩), .int .i64 n] w (DrewN g (p + 30) 10 w) := by
  have hgl := h.1
  have hni : (n : Int) ≤ 9 := by omega
  have HR0 := Lib.hid h
  obtain ⟨i0, hi, hi0, hi1, hi2⟩ := info_parts infoNR
  clear h
  go_enter Tryd.func113, Tryd.ntmps113
  go_wp2_with fail
  obtain ⟨wa, hwa⟩ : ∃ wa, wa = w.alloc (.cells #[] 3) := ⟨_, rfl⟩
  have HGA := Lib.hid (show w.grownBy wa (some g) by rw [hwa]; exact World.grownBy_alloc _ _ _)
  have HRA := Lib.hid (show RdAt wa g p by rw [hwa]; exact HR0.out.alloc _)
  have hwz : wa.heap.size = w.heap.size + 1 := by rw [hwa]; simp
  have HOA := Lib.hid (show OwnsN w.heap.size (.slice (some ⟨w.heap.size, 0, none⟩) 0 0) [] wa by
    have h := World.ownsRow_made (base := w.heap.size) (e := 3) (size := 1) w #[] 0 (Nat.le_refl _) (Nat.zero_le _) rfl
    rw [hwa]
    simpa [OwnsN] using h)
  rw [← hwa]
  clear hwa
  have hmx : maxLen = 9223372036854775807 := rfl
  go_loopw [5, 6, 7, 10] (fun vo _ _ ci wr => ∃ (i gb cp : Nat) (L : List Int), ci = .int .i64 i ∧ i ≤ n ∧ vo = .slice (some ⟨gb, 0, none⟩) i cp ∧ L.length = i ∧ i ≤ cp ∧ cp ≤ maxLen ∧ w.heap.size ≤ gb ∧ Hid (OwnsN w.heap.size (.slice (some ⟨gb, 0, none⟩) i cp) L wr) ∧ Hid (RdAt wr g (p + i)) ∧ Hid (w.grownBy wr (some g))) (fun _ _ _ ci _ => n - (Lib.intOf ci).toNat)
  case atStart => exact ⟨0, w.heap.size, 0, [], rfl, Nat.zero_le _, rfl, rfl, Nat.le_refl _, Nat.zero_le _, Nat.le_refl _, HOA.out, HRA.out, HGA.out⟩
  case round =>
    obtain ⟨i, gb, cp, L, rfl, hin, rfl, hL, hicp, hcpm, hgb, HOW, HRW, HGW⟩ := hrel
    by_cases hlt : i < n
    · have hii : (i : Int) < (n : Int) := by omega
      have HPK := Lib.hid (show Calls Tryd.prog 77 #[.pointer (some ⟨g, 0, none⟩), .int .i64 ((i : Int) + 1)] wr _ from pickR_any g (i + 1) (p + i) wr HRW.out (by omega) (by omega))
      go_wp2_with fail
      refine HPK.out.mono ?_
      rintro x we ⟨k, rfl, hk, RE, GE⟩
      have hki : k ≤ i := by have := hk (by omega); omega
      have HRE := Lib.hid RE
      have HGE := Lib.hid (grownBy_trans HGW.out GE)
      have HOE := Lib.hid (show OwnsN w.heap.size (.slice (some ⟨gb, 0, none⟩) i cp) L we from World.ownsRow.kept HOW.out GE (.inr (by simp [Value.ownBlock]; omega)))
      have hgw : gb < we.heap.size := (World.ownsRow.lt HOE.out gb rfl).2
      have hze : w.heap.size ≤ we.heap.size := HGE.out.size
      clear RE GE hk HPK
      have hz0 : (0 : Int) ≤ (k : Int) := by omega
      have hz1 : (k : Int) ≤ (cp : Int) := by omega
      have hz2 : (k : Int) ≤ (i : Int) := by omega
      have hz3 : (i : Int) ≤ (cp : Int) := by omega
      have CG := Lib.hid (fun W (hW : RowKit.Below we.heap.size we W) j (hj : j < i) => ((hW.cell (p := ⟨gb, j, none⟩) hgw).trans (ownsN_cellR HOE.out hL j hj)))
      have HLT2 := Lib.hid (show (L.take k).length = k by rw [List.length_take, hL]; omega)
      have HLT3 := Lib.hid (show (L.drop k).length = i - k by rw [List.length_drop, hL])
      go_wp2_with fail
      go_region_law (first
        | (refine step_append_ownT _ (by rfl) (.tmp 17) (.tmp 20) 43 (by rfl) we.heap.size 3 i0 (.int .i64 0) 1 8 Tryd.underlying43 hi hi0 hi1 hi2 rfl (by decide) (.slice (some ⟨we.heap.size + 1, 0, none⟩) 0 0) 0 [] (by rfl) (by have h := World.ownsRow_made (base := we.heap.size) (e := 3) (size := 1) (we.alloc (.cells #[.int .i64 (i : Int)] 3)) #[] 0 (by simp) (Nat.zero_le _) rfl; rw [World.size_alloc] at h; exact h) ⟨gb, 0, none⟩ k cp ((L.take k).map encN) (by first | rfl | (go_simp; done)) (by rw [List.length_map, HLT2.out, Nat.mul_one]) (cells_takeR (CG.out _ (by repeat (first | exact Below.refl _ _ | refine Below.drew ?_ | refine Below.alloc ?_ (by first | omega | (simp; done) | (simp; omega)) _))) hL hki) (one_mapR _) (by omega) (by omega) (by first | omega | (simp; done) | (simp; omega)) ?_; intro v1 w1 hown1 hgrow1 _; have HO1 := Lib.hid hown1; have HB1 := Lib.hid (cells_oneR ((hgrow1.cell_far ⟨we.heap.size, 0, none⟩ (by first | omega | (simp; done) | (simp; omega)) (by simp [Value.ownBlock])).trans (by simp [go_sem]) : w1.cell? ⟨we.heap.size, 0, none⟩ = some (.int .i64 (i : Int)))); have HW1 := Lib.hid (((by repeat (first | exact Below.refl _ _ | refine Below.drew ?_ | refine Below.alloc ?_ (by first | omega | (simp; done) | (simp; omega)) _)) : RowKit.Below we.heap.size we _).grown hgrow1 (by first | omega | (simp; done) | (simp; omega)) (fun q hq => by simp [Value.ownBlock] at hq; omega)); have hs1 := HW1.out.size; clear hown1 hgrow1)
        | (refine step_append_ownT _ (by rfl) (.tmp 17) (.tmp 20) 43 (by rfl) we.heap.size 3 i0 (.int .i64 0) 1 8 Tryd.underlying43 hi hi0 hi1 hi2 rfl (by decide) (.slice (some ⟨we.heap.size, 0, none⟩) 0 0) 0 [] (by rfl) (by exact (World.ownsRow_made we #[] 0 (Nat.le_refl _) (Nat.zero_le _) (by simp)).alloc _) ⟨gb, 0, none⟩ k cp ((L.take k).map encN) (by first | rfl | (go_simp; done)) (by rw [List.length_map, HLT2.out, Nat.mul_one]) (cells_takeR (CG.out _ (by repeat (first | exact Below.refl _ _ | refine Below.drew ?_ | refine Below.alloc ?_ (by first | omega | (simp; done) | (simp; omega)) _))) hL hki) (one_mapR _) (by omega) (by omega) (by first | omega | (simp; done) | (simp; omega)) ?_; intro v1 w1 hown1 hgrow1 _; have HO1 := Lib.hid hown1; have HB1 := Lib.hid (cells_oneR ((hgrow1.cell_far ⟨we.heap.size + 1, 0, none⟩ (by first | omega | (simp; done) | (simp; omega)) (by simp [Value.ownBlock])).trans (by simp [go_sem]) : w1.cell? ⟨we.heap.size + 1, 0, none⟩ = some (.int .i64 (i : Int)))); have HW1 := Lib.hid (((by repeat (first | exact Below.refl _ _ | refine Below.drew ?_ | refine Below.alloc ?_ (by first | omega | (simp; done) | (simp; omega)) _)) : RowKit.Below we.heap.size we _).grown hgrow1 (by first | omega | (simp; done) | (simp; omega)) (fun q hq => by simp [Value.ownBlock] at hq; omega)); have hs1 := HW1.out.size; clear hown1 hgrow1)
        | (refine step_append_ownT _ (by rfl) (.tmp 17) (.tmp 20) 43 (by rfl) we.heap.size 3 i0 (.int .i64 0) 1 8 Tryd.underlying43 hi hi0 hi1 hi2 rfl (by decide) (.slice (some ⟨we.heap.size, 0, none⟩) 0 0) 0 [] (by rfl) (by exact World.ownsRow_made we #[] 0 (Nat.le_refl _) (Nat.zero_le _) (by simp)) ⟨gb, 0, none⟩ k cp ((L.take k).map encN) (by first | rfl | (go_simp; done)) (by rw [List.length_map, HLT2.out, Nat.mul_one]) (cells_takeR (CG.out _ (by repeat (first | exact Below.refl _ _ | refine Below.drew ?_ | refine Below.alloc ?_ (by first | omega | (simp; done) | (simp; omega)) _))) hL hki) (one_mapR _) (by omega) (by omega) (by first | omega | (simp; done) | (simp; omega)) ?_; intro v1 w1 hown1 hgrow1 _; have HO1 := Lib.hid hown1; have HW1 := Lib.hid (((by repeat (first | exact Below.refl _ _ | refine Below.drew ?_ | refine Below.alloc ?_ (by first | omega | (simp; done) | (simp; omega)) _)) : RowKit.Below we.heap.size we _).grown hgrow1 (by first | omega | (simp; done) | (simp; omega)) (fun q hq => by simp [Value.ownBlock] at hq; omega)); have hs1 := HW1.out.size; clear hown1 hgrow1)
        | (refine step_append_ownT _ (by rfl) (.tmp 21) (.tmp 23) 43 (by rfl) we.heap.size 3 i0 (.int .i64 0) 1 8 Tryd.underlying43 hi hi0 hi1 hi2 rfl (by decide) v1 (0 + k) ([] ++ ((L.take k).map encN)) (by rfl) HO1.out ⟨we.heap.size, 0, none⟩ 1 1 [.int .i64 (i : Int)] (by first | rfl | (go_simp; done)) rfl HB1.out (one_cell1 _) (by omega) (by omega) (by first | omega | (simp; done) | (simp; omega)) ?_; intro v2 w2 hown2 hgrow2 _; have HO2 := Lib.hid hown2; have HW2 := Lib.hid ((Below.trans HW1.out ((by repeat (first | exact Below.refl _ _ | refine Below.drew ?_ | refine Below.alloc ?_ (by first | omega | (simp; done) | (simp; omega)) _)) : RowKit.Below we.heap.size w1 _)).grown hgrow2 (by first | omega | (simp; done) | (simp; omega)) (fun q hq => (HO1.out.lt q hq).1)); have hs2 := HW2.out.size; clear hown2 hgrow2)
        | (refine step_append_ownT _ (by rfl) (.tmp 21) (.tmp 23) 43 (by rfl) we.heap.size 3 i0 (.int .i64 0) 1 8 Tryd.underlying43 hi hi0 hi1 hi2 rfl (by decide) v1 (0 + k) ([] ++ ((L.take k).map encN)) (by rfl) HO1.out ⟨we.heap.size + 1, 0, none⟩ 1 1 [.int .i64 (i : Int)] (by first | rfl | (go_simp; done)) rfl HB1.out (one_cell1 _) (by omega) (by omega) (by first | omega | (simp; done) | (simp; omega)) ?_; intro v2 w2 hown2 hgrow2 _; have HO2 := Lib.hid hown2; have HW2 := Lib.hid ((Below.trans HW1.out ((by repeat (first | exact Below.refl _ _ | refine Below.drew ?_ | refine Below.alloc ?_ (by first | omega | (simp; done) | (simp; omega)) _)) : RowKit.Below we.heap.size w1 _)).grown hgrow2 (by first | omega | (simp; done) | (simp; omega)) (fun q hq => (HO1.out.lt q hq).1)); have hs2 := HW2.out.size; clear hown2 hgrow2)
        | (refine step_append_ownT _ (by rfl) (.tmp 21) (.tmp 23) 43 (by rfl) we.heap.size 3 i0 (.int .i64 0) 1 8 Tryd.underlying43 hi hi0 hi1 hi2 rfl (by decide) v1 (0 + k) ([] ++ ((L.take k).map encN)) (by rfl) (by exact HO1.out.alloc _) ⟨w1.heap.size, 0, none⟩ 1 1 [.int .i64 (i : Int)] (by first | rfl | (go_simp; done)) rfl (cells_oneR (by simp [go_sem])) (one_cell1 _) (by omega) (by omega) (by first | omega | (simp; done) | (simp; omega)) ?_; intro v2 w2 hown2 hgrow2 _; have HO2 := Lib.hid hown2; have HW2 := Lib.hid ((Below.trans HW1.out ((by repeat (first | exact Below.refl _ _ | refine Below.drew ?_ | refine Below.alloc ?_ (by first | omega | (simp; done) | (simp; omega)) _)) : RowKit.Below we.heap.size w1 _)).grown hgrow2 (by first | omega | (simp; done) | (simp; omega)) (fun q hq => (HO1.out.lt q hq).1)); have hs2 := HW2.out.size; clear hown2 hgrow2)
        | (refine step_append_ownT _ (by rfl) (.tmp 24) (.tmp 27) 43 (by rfl) we.heap.size 3 i0 (.int .i64 0) 1 8 Tryd.underlying43 hi hi0 hi1 hi2 rfl (by decide) v2 (0 + k + 1) ([] ++ ((L.take k).map encN) ++ [.int .i64 (i : Int)]) (by rfl) HO2.out ⟨gb, if cp = k then 0 else k, none⟩ (i - k) (cp - k) ((L.drop k).map encN) (by go_simp; by_cases hck : cp = k <;> simp [hck]) (by rw [List.length_map, HLT3.out, Nat.mul_one]) (cells_dropR (CG.out _ HW2.out) hL hicp) (one_mapR _) (by omega) (by omega) (by first | omega | (simp; done) | (simp; omega)) ?_; intro v3 w3 hown3 hgrow3 _; have HO3 := Lib.hid hown3; have HW3 := Lib.hid (HW2.out.grown hgrow3 (by first | omega | (simp; done) | (simp; omega)) (fun q hq => (HO2.out.lt q hq).1)); clear hown3 hgrow3))
      all_goals
        obtain ⟨g', cp', rfl, hq1, hq2, hq3, hq4, hq5, hq6⟩ := draw_next (b0 := w.heap.size) hze hL hki HO3.out
        have HQ5 := Lib.hid hq5
        have HQ6 := Lib.hid hq6
        have HR3 := Lib.hid (HRE.out.below HW3.out (Nat.le_refl _))
        have HG3 := Lib.hid (grownBy_trans HGE.out (grown_any HW3.out (some g)))
        clear hq5 hq6
        go_wp2_with fail
        go_roundw
        case rel => exact ⟨i + 1, g', cp', _, by go_num, by omega, rfl, HQ5.out, hq1, hq2, by omega, HQ6.out, HR3.out, HG3.out⟩
        case measure => simp [Lib.intOf]; omega
    · have hie : i = n := by omega
      subst hie
      have HPK := Lib.hid (pickR_any g 16 (p + i) wr HRW.out (by omega) (by omega))
      go_wp2_with fail
      refine HPK.out.mono ?_
      rintro x we ⟨k, rfl, _, RE, GE⟩
      have HRE := Lib.hid RE
      have HGE := Lib.hid (grownBy_trans HGW.out GE)
      have HOE := Lib.hid (show OwnsN w.heap.size (.slice (some ⟨gb, 0, none⟩) i cp) L we from World.ownsRow.kept HOW.out GE (.inr (by simp [Value.ownBlock]; omega)))
      have hze : w.heap.size ≤ we.heap.size := HGE.out.size
      clear RE GE HPK
      by_cases hk0 : k = 0
      · subst hk0
        have HNM := Lib.hid (show Calls Tryd.prog 76 #[.pointer (some ⟨g, 0, none⟩), .slice (some ⟨we.heap.size, 0, none⟩) 3 3] (we.alloc (.cells #[.int .i64 0, .int .i64 i, .int .i64 (-1)] 3)) _ from numLit_any g (p + i + 1) [0, (i : Int), -1] we HRE.out (by omega) (by simp) (by simp))
        go_wp2_with fail
        refine HNM.out.mono ?_
        rintro x wf ⟨z, _, rfl, RF, GF⟩
        have HRF := Lib.hid RF
        have GF2 : we.grownBy wf (some g) := ⟨GF.os, GF.tape, GF.output, GF.size, GF.block⟩
        have HGF := Lib.hid (grownBy_trans HGE.out GF2)
        have HOF := Lib.hid (show OwnsN w.heap.size (.slice (some ⟨gb, 0, none⟩) i cp) L wf from World.ownsRow.kept HOE.out GF2 (.inr (by simp [Value.ownBlock]; omega)))
        have hzf : w.heap.size ≤ wf.heap.size := HGF.out.size
        clear RF GF GF2 HNM
        have HOW2 := Lib.hid (show wf.ownsRow w.heap.size 3 1 (.slice (some ⟨gb, 0, none⟩) i cp) i (L.map encN) by have h := HOF.out; subst hL; exact h)
        go_wp2_with (at_builtin; refine wpList_append_own_at _ rfl _ _ 43 rfl w.heap.size 3 i0 (.int .i64 0) 1 8 Tryd.underlying43 hi hi0 hi1 hi2 rfl (by decide) _ _ _ rfl (HOW2.out.alloc _) ⟨wf.heap.size, 0, none⟩ 1 1 [.int .i64 z] rfl rfl ?c1 ?c2 ?c3 ?c4 ?c5 ?_)
        case c2 => intro u hu; simp at hu; subst hu; rfl
        case c1 => exact cells_oneR (by simp [go_sem])
        case c3 => unfold maxLen; omega
        case c4 => omega
        case c5 => first | omega | (simp; omega)
        intro v' w9 hown9 hgrow hnil hat
        have ho9 : OwnsN w.heap.size v' (L ++ [z]) w9 := by
          unfold OwnsN
          rw [List.length_append, List.map_append, hL]
          exact hown9
        obtain ⟨go, co, rfl, hgo⟩ : ∃ go co, v' = .slice (some ⟨go, 0, none⟩) (L ++ [z]).length co ∧ w.heap.size ≤ go := by
          rcases ho9.2 with ⟨_, h0⟩ | ⟨go, co, _, h0, hb, _⟩
          · simp at h0
          · exact ⟨go, co, h0, hb⟩
        have hg9 : w.grownBy w9 (some g) := by
          have h1 := grownBy_trans HGF.out (World.grownBy_alloc wf (.cells #[.int .i64 z] 3) (some g))
          refine ⟨hgrow.os.trans h1.os, hgrow.tape.trans h1.tape, hgrow.output.trans h1.output, Nat.le_trans h1.size hgrow.size, fun q hq hne => (hgrow.block q (Nat.lt_of_lt_of_le hq h1.size) (by simp [Value.ownBlock]; omega)).trans (h1.block q hq hne)⟩
        have hr9 : RdAt w9 g (p + 30) := ((HRF.out.alloc _).kept hgrow (fun r e => by simp [Value.ownBlock] at e; omega)).le (by omega)
        have HO9 := Lib.hid ho9
        have HG9 := Lib.hid hg9
        have HR9 := Lib.hid hr9
        clear hown9 hgrow hnil hat ho9 hg9 hr9
        go_wp2_with fail
        go_ret
        exact ⟨L ++ [z], go, co, by rw [List.length_append, hL]; simp; omega, rfl, HO9.out, hgo, HR9.out, HG9.out⟩
      · have hki : ¬ (k : Int) = 0 := by omega
        go_wp2_with fail
        go_ret
        exact ⟨L, gb, cp, by omega, by rw [hL]; rfl, by subst hL; exact HOE.out, hgb, HRE.out.le (by omega), HGE.out⟩
end Go.Proofs.YtjmfcnblkojejaaDoor

namespace Go.Proofs.YtjmfcnblkojejaaDoor
open Go.RowKit Go.Shelf Go.Lib Go.Sort

theorem grown_twoR {w w1 w2 : World} {g B : Nat} (h1 : w.grownBy w1 (some g)) (h2 : w1.grownBy w2 (some B)) (hB : w.heap.size ≤ B) : w.grownBy w2 (some g) :=
  ⟨h2.os.trans h1.os, h2.tape.trans h1.tape, h2.output.trans h1.output, Nat.le_trans h1.size h2.size, fun q hq hne => (h2.block q (Nat.lt_of_lt_of_le hq h1.size) (by simp; omega)).trans (h1.block q hq hne)⟩
theorem RowC.keptR {W W' : World} {g off : Nat} {d : Array CaseD} {row : Option Nat} (h : RowC W g off d) (hg : W.grownBy W' row) (hne : some g ≠ row) : RowC W' g off d := by
  have hc : ∀ j, W'.cell? ⟨g, j, none⟩ = W.cell? ⟨g, j, none⟩ := fun j => World.cell?_of_block (w := W) (hg.block g h.old hne)
  exact ⟨Nat.lt_of_lt_of_le h.old hg.size, fun j hj => (hc _).trans (h.low j hj), fun j hj => (hc _).trans (h.high j hj), fun j hj => (hc _).trans (h.target j hj), fun j hj => (hc _).trans (h.weight j hj)⟩
theorem put_boxR {W : World} {B : Nat} {v : Value} {r : Int} (hB : BoxS W B v r) (u : Value) (z : Int) :
    BoxS ((W.setCell ⟨B, 0, none⟩ u).setCell ⟨B, 1, none⟩ (.int .i64 z)) B u z ∧ W.grownBy ((W.setCell ⟨B, 0, none⟩ u).setCell ⟨B, 1, none⟩ (.int .i64 z)) (some B) :=
  ⟨(hB.set u).set1 z, (grown_set W B 0 u).trans (grown_set (W.setCell ⟨B, 0, none⟩ u) B 1 (.int .i64 z))⟩
/-- A switch and numbers have been drawn; the source lies in block g. -/
def DrewSome (g p : Nat) (w : World) (x : Ending) (w' : World) : Prop := ∃ (D : Array CaseD) (rest : Int) (L : List Int) (b cap go co : Nat), SmallSw D 9 ∧ L.length ≤ 10 ∧ x = .returned (.tuple #[.agg #[.slice (some ⟨b, 0, none⟩) D.size cap, .int .i64 rest], .slice (some ⟨go, 0, none⟩) L.length co]) ∧ RowC w' b 0 D ∧ w.heap.size ≤ b ∧ D.size ≤ cap ∧ cap ≤ maxLen ∧ OwnsN w.heap.size (.slice (some ⟨go, 0, none⟩) L.length co) L w' ∧ w.heap.size ≤ go ∧ RdAt w' g p ∧ w.grownBy w' (some g)

set_option maxRecDepth 100000 in
set_option maxHeartbeats 4000000 in
theorem l3Some_any (g p : Nat) (w : World) (h : RdAt w g p) (hp : p ≤ 20000) :
    Calls Tryd.prog 69 #[.pointer (some ⟨g, 0, none⟩)] w (DrewSome g (p + 110) w) := by
  obtain ⟨w1, hw1⟩ : ∃ w1, w1 = w.alloc (.cells #[.slice none 0 0, .int .i64 0] 25) := ⟨_, rfl⟩
  have RX1 := Lib.hid (show BoxS w1 w.heap.size (.slice none 0 0) 0 by rw [hw1]; exact BoxS.new _ _ _)
  have HB1 := Lib.hid (show w.grownBy w1 (some g) by rw [hw1]; exact World.grownBy_alloc _ _ _)
  have HR1 := Lib.hid (show RdAt w1 g p by rw [hw1]; exact h.alloc _)
  have hz1 : w.heap.size < w1.heap.size := by rw [hw1]; simp
  have HW1 := Lib.hid hw1
  have hgl : g < w.heap.size := h.1
  clear hw1 h
  go_enter Tryd.func69, Tryd.ntmps69
  go_wp2_with fail
  rw [← HW1.out]
  have HSM := Lib.hid (some_any g p w1 HR1.out (by omega))
  refine HSM.out.mono ?_
  rintro x w2 ⟨D, r, hs, ⟨u, rfl, ho, hv⟩, hR2, hG2⟩
  obtain ⟨gd, cd, rfl, hgd, hcd, hmd⟩ := owns_form ho hv
  have hDl : D.toList.length = D.size := Array.length_toList
  rw [hDl] at ho hv hcd
  have hRC : RowC w2 gd 0 D := by
    have := owns_row (n := D.size) (l := D.toList) ho
    rwa [Array.toArray_toList] at this
  have hz2 := hG2.size
  have HS := Lib.hid hs
  have RX2 := Lib.hid (RX1.out.kept hG2 (by simp; omega))
  have HB2 := Lib.hid (grownBy_trans HB1.out hG2)
  obtain ⟨wb, hwb⟩ : ∃ wb, wb = w2.alloc (.cells #[.slice (some ⟨gd, 0, none⟩) D.size cd, .int .i64 r] 25) := ⟨_, rfl⟩
  have HBX := Lib.hid (show BoxS wb w2.heap.size (.slice (some ⟨gd, 0, none⟩) D.size cd) r by rw [hwb]; exact BoxS.new _ _ _)
  have HRB := Lib.hid (show RdAt wb g (p + 80) by rw [hwb]; exact (hR2.le (by omega)).alloc _)
  have RXB := Lib.hid (show BoxS wb w.heap.size (.slice none 0 0) 0 by rw [hwb]; exact RX2.out.kept (row := none) (World.grownBy_alloc _ _ _) (by simp))
  have HOB := Lib.hid (show RowC wb gd 0 D by rw [hwb]; exact hRC.below ((Below.refl _ _).alloc (Nat.le_refl _) _))
  have HBB := Lib.hid (show w.grownBy wb (some g) by rw [hwb]; exact grownBy_trans HB2.out (World.grownBy_alloc _ _ _))
  have hzb : w2.heap.size < wb.heap.size := by rw [hwb]; simp
  have HWB := Lib.hid hwb
  have x0 := HBX.out.c0
  have x1 := HBX.out.c1
  have r0 := RXB.out.c0
  have r1 := RXB.out.c1
  have f0 := RXB.out.z 0
  have f1 := RXB.out.z 1
  have hxl := HBX.out.lt
  have hrl := RXB.out.lt
  have HAK := Lib.hid (show Calls Tryd.prog 113 #[.pointer (some ⟨g, 0, none⟩), .int .i64 D.size] wb.drew _ from l3Draw_any g (p + 80) D.size wb.drew HRB.out.drew (by omega) (by have := hs.1; omega))
  clear hwb ho hv hRC hR2 hG2 hs
  go_wp2_with fail
  rw [← HWB.out]
  go_region_held3 (fun w' => w'.cell? ⟨w2.heap.size, 0, none⟩ = some (.slice (some ⟨gd, 0, none⟩) D.size cd) ∧ w'.cell? ⟨w2.heap.size, 1, none⟩ = some (.int .i64 r)) (first | exact ⟨x0, x1⟩ | exact ⟨y0, y1⟩ | exact ⟨HK0.out _ _, HK1.out _ _⟩ | go_keep) (first
    | (go_at_call 113; (with_reducible refine (HAK.out).mono ?_); rintro _ w3 ⟨L, gL, cL, hLl, rfl, oL, hgL, R3, g3⟩; have G3 := Lib.hid (show wb.grownBy w3 (some g) from ⟨g3.os, g3.tape, g3.output, g3.size, g3.block⟩); have BX3 := Lib.hid (HBX.out.kept G3.out (by simp; omega)); have RX3 := Lib.hid (RXB.out.kept G3.out (by simp; omega)); have y0 := BX3.out.c0; have y1 := BX3.out.c1; have q0 := RX3.out.c0; have q1 := RX3.out.c1; have q2 := RX3.out.z 0; have q3 := RX3.out.z 1; have hyl := BX3.out.lt; have hql := RX3.out.lt; have z3 := G3.out.size; have HK0 := Lib.hid (fun u u' => ((kept_cells (W := w3) (a := w.heap.size) (b := w2.heap.size) (by omega) u u' 0).trans y0)); have HK1 := Lib.hid (fun u u' => ((kept_cells (W := w3) (a := w.heap.size) (b := w2.heap.size) (by omega) u u' 1).trans y1)); have HR3 := Lib.hid R3; have HOL := Lib.hid oL; have HLL := Lib.hid hLl; have hgL2 : wb.heap.size ≤ gL := hgL; clear R3 g3 oL hLl hgL))
  all_goals
    obtain ⟨RZ, GZ⟩ := put_boxR RX3.out (.slice (some ⟨gd, 0, none⟩) D.size cd) r
    have HRZ := Lib.hid RZ
    have HBZ := Lib.hid (grown_twoR (grownBy_trans HBB.out G3.out) GZ (Nat.le_refl _))
    have HRW := Lib.hid ((HOB.out.keptR G3.out (by simp; omega)).keptR GZ (by simp; omega))
    have HOZ := Lib.hid (show OwnsN wb.heap.size (.slice (some ⟨gL, 0, none⟩) L.length cL) L _ from World.ownsRow.kept HOL.out GZ (.inr (by simp [Value.ownBlock]; omega)))
    have HRR := Lib.hid ((HR3.out.kept GZ (fun q e => by cases e; omega)).le (show p + 80 + 30 ≤ p + 110 by omega))
    have hzz : w.heap.size ≤ wb.heap.size := HBB.out.size
    clear RZ GZ
    go_wp2_with fail
    refine bodyPost_ret (v := .tuple #[.agg #[.slice (some ⟨gd, 0, none⟩) D.size cd, .int .i64 r], .slice (some ⟨gL, 0, none⟩) L.length cL]) (by simp [results, Tryd.results69, go_sem, HRZ.out.c0, HRZ.out.c1]) rfl ⟨D, r, L, gd, cd, gL, cL, HS.out, HLL.out, rfl, HRW.out, by omega, hcd, hmd, ⟨HOZ.out.1, HOZ.out.2.imp id (fun ⟨a1, a2, a3, a4, a5, a6⟩ => ⟨a1, a2, a3, a4, Nat.le_trans hzz a5, a6⟩)⟩, by omega, HRR.out, HBZ.out⟩

set_option maxRecDepth 100000 in
set_option maxHeartbeats 4000000 in
theorem drawTest_any (v : Value) (m : Nat) (w : World) (hb : BytesAt w.heap.size w v m) (hm : m ≤ 1048576) :
    Calls Tryd.prog 32 #[v] w (DrewKey w) := by
  obtain ⟨wa, hwa⟩ : ∃ wa, wa = w.alloc (.cells #[.slice none 0 0, .int .i64 0] 25) := ⟨_, rfl⟩
  have HRX := Lib.hid (show BoxS wa w.heap.size (.slice none 0 0) 0 by rw [hwa]; exact BoxS.new _ _ _)
  have HBA := Lib.hid (show RowKit.Below w.heap.size w wa by rw [hwa]; exact (Below.refl _ _).alloc (Nat.le_refl _) _)
  have hz : w.heap.size < wa.heap.size := by rw [hwa]; simp
  have hba : BytesAt wa.heap.size wa v m := by
    rcases hb with h1 | ⟨b, off, cap, h1, h2, h3, h4⟩
    · exact .inl h1
    · refine .inr ⟨b, off, cap, h1, h2, by omega, fun j hj => ?_⟩
      obtain ⟨y, h5, h6⟩ := h4 j hj
      exact ⟨y, h5, (HBA.out.cell (p := ⟨b, off + j, none⟩) h3).trans h6⟩
  have HOP := Lib.hid (open_any v m wa hba hm)
  have HWA := Lib.hid hwa
  clear hwa hba hb
  go_enter Tryd.func32, Tryd.ntmps32
  go_wp2_with fail
  rw [← HWA.out]
  refine HOP.out.mono ?_
  rintro x w1 ⟨g, rfl, hgl, hR1, hb1⟩
  have HR1 := Lib.hid hR1
  have hgl2 := hR1.1
  have RX1 := Lib.hid (HRX.out.kept (grown_of_below hb1) (by simp))
  have HB1 := Lib.hid (HBA.out.trans (hb1.mono (by omega)))
  have hz1 := hb1.size
  have HSM := Lib.hid (some_any g 0 w1 HR1.out (by omega))
  clear hR1 hb1
  go_wp2_with fail
  refine HSM.out.mono ?_
  rintro x w2 ⟨D, r, hs, ⟨u, rfl, ho, hv⟩, hR2, hG2⟩
  obtain ⟨gd, cd, rfl, hgd, hcd, hmd⟩ := owns_form ho hv
  have hDl : D.toList.length = D.size := Array.length_toList
  rw [hDl] at ho hv hcd
  have hz2 := hG2.size
  have HS := Lib.hid hs
  have RX2 := Lib.hid (RX1.out.kept hG2 (by simp; omega))
  have HB2 := Lib.hid (below_drawn HB1.out hG2 (by omega) (by omega))
  obtain ⟨wb, hwb⟩ : ∃ wb, wb = w2.alloc (.cells #[.slice (some ⟨gd, 0, none⟩) D.size cd, .int .i64 r] 25) := ⟨_, rfl⟩
  have HBX := Lib.hid (show BoxS wb w2.heap.size (.slice (some ⟨gd, 0, none⟩) D.size cd) r by rw [hwb]; exact BoxS.new _ _ _)
  have HRB := Lib.hid (show RdAt wb g 80 by rw [hwb]; exact (hR2.le (by omega)).alloc _)
  have RXB := Lib.hid (show BoxS wb w.heap.size (.slice none 0 0) 0 by rw [hwb]; exact RX2.out.kept (row := none) (World.grownBy_alloc _ _ _) (by simp))
  have HOB := Lib.hid (show OwnsC w1.heap.size (.slice (some ⟨gd, 0, none⟩) D.size cd) D.toList wb by rw [hwb]; exact World.ownsRow.alloc ho _)
  have HBB := Lib.hid (show RowKit.Below w.heap.size w wb by rw [hwb]; exact HB2.out.alloc (by omega) _)
  have hzb : w2.heap.size < wb.heap.size := by rw [hwb]; simp
  have HWB := Lib.hid hwb
  have x0 := HBX.out.c0
  have x1 := HBX.out.c1
  have r0 := RXB.out.c0
  have r1 := RXB.out.c1
  have f0 := RXB.out.z 0
  have f1 := RXB.out.z 1
  have hxl := HBX.out.lt
  have hrl := RXB.out.lt
  have HAK := Lib.hid (show Calls Tryd.prog 77 #[.pointer (some ⟨g, 0, none⟩), .int .i64 8] wb.drew _ from pickR_any g 8 80 wb.drew HRB.out.drew (by omega) (by omega))
  have HNL := Lib.hid (fun (q : Nat) W (hW : RdAt W g 81) => (show Calls Tryd.prog 76 #[.pointer (some ⟨g, 0, none⟩), .slice (some ⟨W.heap.size, 0, none⟩) 6 6] (W.alloc (.cells #[.int .i64 0, .int .i64 1, .int .i64 2, .int .i64 q, .int .i64 (-1), .int .i64 8] 3)) _ from numLit_any g 81 [0, 1, 2, (q : Int), -1, 8] W hW (by omega) (by simp) (by simp)))
  clear hwb ho hv hR2 hG2 hs
  go_wp2_with fail
  rw [← HWB.out]
  go_region_held3 (fun w' => w'.cell? ⟨w2.heap.size, 0, none⟩ = some (.slice (some ⟨gd, 0, none⟩) D.size cd) ∧ w'.cell? ⟨w2.heap.size, 1, none⟩ = some (.int .i64 r)) (first | exact ⟨x0, x1⟩ | exact ⟨y0, y1⟩ | exact ⟨v0, v1⟩ | exact ⟨HK0.out _ _, HK1.out _ _⟩ | go_keep) (first
    | (go_at_call 77; (with_reducible refine (HAK.out).mono ?_); rintro _ w3 ⟨q, rfl, _, R3, g3⟩; have G3 := Lib.hid (show wb.grownBy w3 (some g) from ⟨g3.os, g3.tape, g3.output, g3.size, g3.block⟩); have BX3 := Lib.hid (HBX.out.kept G3.out (by simp; omega)); have y0 := BX3.out.c0; have y1 := BX3.out.c1; have hyl := BX3.out.lt; have z3 := G3.out.size; have HR3 := Lib.hid R3; have HNL3 := Lib.hid (HNL.out q w3 R3); have BX3a := Lib.hid (BX3.out.kept (row := Option.none) (World.grownBy_alloc w3 (.cells #[.int .i64 0, .int .i64 1, .int .i64 2, .int .i64 q, .int .i64 (-1), .int .i64 8] 3) _) (by simp)); have v0 := BX3a.out.c0; have v1 := BX3a.out.c1; clear R3 g3)
    | (go_at_call 76; (with_reducible refine (HNL3.out).mono ?_); rintro _ w4 ⟨key, _, rfl, R4, g4⟩; have G4 := Lib.hid (grownBy_trans G3.out g4); have BX4 := Lib.hid (HBX.out.kept G4.out (by simp; omega)); have RX4 := Lib.hid (RXB.out.kept G4.out (by simp; omega)); have y0 := BX4.out.c0; have y1 := BX4.out.c1; have q0 := RX4.out.c0; have q1 := RX4.out.c1; have q2 := RX4.out.z 0; have q3 := RX4.out.z 1; have hyl := BX4.out.lt; have hql := RX4.out.lt; have z4 := G4.out.size; have HK0 := Lib.hid (fun u u' => ((kept_cells (W := w4) (a := w.heap.size) (b := w2.heap.size) (by omega) u u' 0).trans y0)); have HK1 := Lib.hid (fun u u' => ((kept_cells (W := w4) (a := w.heap.size) (b := w2.heap.size) (by omega) u u' 1).trans y1)); clear R4 g4))
  all_goals
    obtain ⟨RZ, OZ, GZ⟩ := put_sw RX4 (World.ownsRow.kept HOB.out G4.out (.inr (by simp [Value.ownBlock]; omega))) r
    have HRZ := Lib.hid RZ
    have HB3 := below_drawn HBB.out G4.out (by omega) (by omega)
    have HBZ := Lib.hid ((HB3.setCell (p := ⟨w.heap.size, 0, none⟩) (Nat.le_refl _) (.slice (some ⟨gd, 0, none⟩) D.size cd)).setCell (p := ⟨w.heap.size, 1, none⟩) (Nat.le_refl _) (.int .i64 r))
    have HRW := Lib.hid (show RowC _ gd 0 D by
      have := owns_row (n := D.size) (l := D.toList) OZ
      rwa [Array.toArray_toList] at this)
    clear RZ OZ GZ HB3
    go_wp2_with fail
    refine bodyPost_ret (v := .tuple #[.agg #[.slice (some ⟨gd, 0, none⟩) D.size cd, .int .i64 r], .int .i64 key]) (by simp [results, Tryd.results32, go_sem, HRZ.out.c0, HRZ.out.c1]) rfl (DrewKey.mk D r key gd cd rfl HRW.out hcd hmd HS.out HBZ.out)
/-- A switch, numbers and a key have been drawn. -/
def DrewChain (w : World) (x : Ending) (w' : World) : Prop := ∃ (D : Array CaseD) (rest key : Int) (L : List Int) (b cap go co : Nat), x = .returned (.tuple #[.agg #[.slice (some ⟨b, 0, none⟩) D.size cap, .int .i64 rest], .slice (some ⟨go, 0, none⟩) L.length co, .int .i64 key]) ∧ L.length ≤ 10 ∧ RowC w' b 0 D ∧ D.size ≤ cap ∧ cap ≤ maxLen ∧ SmallSw D 9 ∧ OwnsN w.heap.size (.slice (some ⟨go, 0, none⟩) L.length co) L w' ∧ RowKit.Below w.heap.size w w'

set_option maxRecDepth 100000 in
set_option maxHeartbeats 4000000 in
theorem drawChain_any (v : Value) (m : Nat) (w : World) (hb : BytesAt w.heap.size w v m) (hm : m ≤ 1048576) :
    Calls Tryd.prog 27 #[v] w (DrewChain w) := by
  obtain ⟨wa, hwa⟩ : ∃ wa, wa = w.alloc (.cells #[.slice none 0 0, .int .i64 0] 25) := ⟨_, rfl⟩
  have HRX := Lib.hid (show BoxS wa w.heap.size (.slice none 0 0) 0 by rw [hwa]; exact BoxS.new _ _ _)
  have HBA := Lib.hid (show RowKit.Below w.heap.size w wa by rw [hwa]; exact (Below.refl _ _).alloc (Nat.le_refl _) _)
  have hz : w.heap.size < wa.heap.size := by rw [hwa]; simp
  have hba : BytesAt wa.heap.size wa v m := by
    rcases hb with h1 | ⟨b, off, cap, h1, h2, h3, h4⟩
    · exact .inl h1
    · refine .inr ⟨b, off, cap, h1, h2, by omega, fun j hj => ?_⟩
      obtain ⟨y, h5, h6⟩ := h4 j hj
      exact ⟨y, h5, (HBA.out.cell (p := ⟨b, off + j, none⟩) h3).trans h6⟩
  have HOP := Lib.hid (open_any v m wa hba hm)
  have HWA := Lib.hid hwa
  clear hwa hba hb
  go_enter Tryd.func27, Tryd.ntmps27
  go_wp2_with fail
  rw [← HWA.out]
  refine HOP.out.mono ?_
  rintro x w1 ⟨g, rfl, hgl, hR1, hb1⟩
  have HR1 := Lib.hid hR1
  have hgl2 := hR1.1
  have RX1 := Lib.hid (HRX.out.kept (grown_of_below hb1) (by simp))
  have HB1 := Lib.hid (HBA.out.trans (hb1.mono (by omega)))
  have hz1 := hb1.size
  have HSM := Lib.hid (l3Some_any g 0 w1 HR1.out (by omega))
  clear hR1 hb1
  go_wp2_with fail
  refine HSM.out.mono ?_
  rintro x w2 ⟨D, r, L, gd, cd, gL, cL, hs, hts, rfl, hRC, hgd, hcd, hmd, oL, hgL, hR2, hG2⟩
  have hz2 := hG2.size
  have HS := Lib.hid hs
  have HTS := Lib.hid hts
  have RX2 := Lib.hid (RX1.out.kept hG2 (by simp; omega))
  have HB2 := Lib.hid (below_drawn HB1.out hG2 (by omega) (by omega))
  obtain ⟨wb, hwb⟩ : ∃ wb, wb = w2.alloc (.cells #[.slice (some ⟨gd, 0, none⟩) D.size cd, .int .i64 r] 25) := ⟨_, rfl⟩
  have HBX := Lib.hid (show BoxS wb w2.heap.size (.slice (some ⟨gd, 0, none⟩) D.size cd) r by rw [hwb]; exact BoxS.new _ _ _)
  have HRB := Lib.hid (show RdAt wb g 110 by rw [hwb]; exact (hR2.le (by omega)).alloc _)
  have RXB := Lib.hid (show BoxS wb w.heap.size (.slice none 0 0) 0 by rw [hwb]; exact RX2.out.kept (row := none) (World.grownBy_alloc _ _ _) (by simp))
  have HOB := Lib.hid (show RowC wb gd 0 D by rw [hwb]; exact hRC.below ((Below.refl _ _).alloc (Nat.le_refl _) _))
  have HBB := Lib.hid (show RowKit.Below w.heap.size w wb by rw [hwb]; exact HB2.out.alloc (by omega) _)
  have HLB := Lib.hid (show OwnsN w1.heap.size (.slice (some ⟨gL, 0, none⟩) L.length cL) L wb by rw [hwb]; exact World.ownsRow.alloc oL _)
  have hzb : w2.heap.size < wb.heap.size := by rw [hwb]; simp
  have HWB := Lib.hid hwb
  have x0 := HBX.out.c0
  have x1 := HBX.out.c1
  have r0 := RXB.out.c0
  have r1 := RXB.out.c1
  have f0 := RXB.out.z 0
  have f1 := RXB.out.z 1
  have hxl := HBX.out.lt
  have hrl := RXB.out.lt
  have HAK := Lib.hid (anyKey_any g 110 wb.drew HRB.out.drew (by omega))
  have hgLw : gL < w2.heap.size := (World.ownsRow.lt oL gL rfl).2
  clear hwb hRC hR2 hG2 hs hts oL
  go_wp2_with fail
  rw [← HWB.out]
  go_region_held3 (fun w' => w'.cell? ⟨w2.heap.size, 0, none⟩ = some (.slice (some ⟨gd, 0, none⟩) D.size cd) ∧ w'.cell? ⟨w2.heap.size, 1, none⟩ = some (.int .i64 r)) (first | exact ⟨x0, x1⟩ | exact ⟨y0, y1⟩ | exact ⟨HK0.out _ _, HK1.out _ _⟩ | go_keep) (first
    | (go_at_call 70; (with_reducible refine (HAK.out).mono ?_); rintro _ w3 ⟨key, rfl, R3, g3⟩; have G3 := Lib.hid (show wb.grownBy w3 (some g) from ⟨g3.os, g3.tape, g3.output, g3.size, g3.block⟩); have BX3 := Lib.hid (HBX.out.kept G3.out (by simp; omega)); have RX3 := Lib.hid (RXB.out.kept G3.out (by simp; omega)); have y0 := BX3.out.c0; have y1 := BX3.out.c1; have q0 := RX3.out.c0; have q1 := RX3.out.c1; have q2 := RX3.out.z 0; have q3 := RX3.out.z 1; have hyl := BX3.out.lt; have hql := RX3.out.lt; have z3 := G3.out.size; have HK0 := Lib.hid (fun u u' => ((kept_cells (W := w3) (a := w.heap.size) (b := w2.heap.size) (by omega) u u' 0).trans y0)); have HK1 := Lib.hid (fun u u' => ((kept_cells (W := w3) (a := w.heap.size) (b := w2.heap.size) (by omega) u u' 1).trans y1)); have HR3 := Lib.hid R3; clear R3 g3))
  all_goals
    obtain ⟨RZ, GZ⟩ := put_boxR RX3.out (.slice (some ⟨gd, 0, none⟩) D.size cd) r
    have HRZ := Lib.hid RZ
    have HB3 := below_drawn HBB.out G3.out (by omega) (by omega)
    have HBZ := Lib.hid ((HB3.setCell (p := ⟨w.heap.size, 0, none⟩) (Nat.le_refl _) (.slice (some ⟨gd, 0, none⟩) D.size cd)).setCell (p := ⟨w.heap.size, 1, none⟩) (Nat.le_refl _) (.int .i64 r))
    have HRW := Lib.hid ((HOB.out.keptR G3.out (by simp; omega)).keptR GZ (by simp; omega))
    have HLZ := Lib.hid (show OwnsN w1.heap.size (.slice (some ⟨gL, 0, none⟩) L.length cL) L _ from World.ownsRow.kept (World.ownsRow.kept HLB.out G3.out (.inr (by simp [Value.ownBlock]; omega))) GZ (.inr (by simp [Value.ownBlock]; omega)))
    have hz11 : w.heap.size ≤ w1.heap.size := HB1.out.size
    clear RZ GZ HB3
    go_wp2_with fail
    refine bodyPost_ret (v := .tuple #[.agg #[.slice (some ⟨gd, 0, none⟩) D.size cd, .int .i64 r], .slice (some ⟨gL, 0, none⟩) L.length cL, .int .i64 key]) (by simp [results, Tryd.results27, go_sem, HRZ.out.c0, HRZ.out.c1]) rfl ⟨D, r, key, L, gd, cd, gL, cL, rfl, HTS.out, HRW.out, hcd, hmd, HS.out, ⟨HLZ.out.1, HLZ.out.2.imp id (fun ⟨a1, a2, a3, a4, a5, a6⟩ => ⟨a1, a2, a3, a4, Nat.le_trans hz11 a5, a6⟩)⟩, HBZ.out⟩
end Go.Proofs.YtjmfcnblkojejaaDoor
