
/- Reading by the model: l1Read of any text; of a case's text that case. -/
import Derived.Test.YtoiljohaicpncaaDoorKsParP
import Derived.Test.YtoiljohaicpncaaDoorKsNumS
import Derived.Test.YtoiljohaicpncaaDoorKsIterS
import Derived.IntWalk
namespace Go.Proofs.YtoiljohaicpncaaDoor
open Go.RowKit Go.Shelf Go.Lib Go.Sort

/-- A number read: whatever the text; exactly where it is plain. -/
def NumOf (s : ByteArray) (z : Int) (b : Bool) : Prop := ∀ n : Int, 0 ≤ n → n ≤ 99 → s = itoaS n → z = n ∧ b = true
theorem num_both (s : ByteArray) (hs : s.size ≤ 2000000) (w : World) :
    Calls Tryd.prog 185 #[.string s] w fun x w' => ∃ (z : Int) (b : Bool), x = .returned (.tuple #[.int .i64 z, .bool b]) ∧ NumOf s z b ∧ w' = w := by
  by_cases hp : ∃ n : Int, 0 ≤ n ∧ n ≤ 99 ∧ s = itoaS n
  · obtain ⟨n, h0, h1, rfl⟩ := hp
    obtain ⟨p1, p2⟩ := num_itoa h0 h1
    refine (num_plain _ p1 w).mono fun x w' ⟨hx, hw⟩ => ⟨_, _, hx, fun m m0 m1 e => ?_, hw⟩
    have := (num_itoa m0 m1).2
    rw [← e, p2] at this
    exact ⟨by rw [p2]; exact this, rfl⟩
  · exact (num_safe s hs w).mono fun x w' ⟨⟨z, b, hx⟩, hw⟩ => ⟨z, b, hx, fun n h0 h1 e => absurd ⟨n, h0, h1, e⟩ hp, hw⟩
theorem cutSt_sizes (s : ByteArray) (c : Nat) : ∀ i, ∀ p ∈ (cutSt s c i).1, p.size ≤ s.size
  | 0 => by simp [cutSt]
  | i + 1 => by
    intro p hp
    rw [cutSt] at hp
    split at hp
    · simp only [List.mem_append, List.mem_singleton] at hp
      rcases hp with hp | rfl
      · exact cutSt_sizes s c i p hp
      · simp only [ByteArray.size_extract]; omega
    · exact cutSt_sizes s c i p hp
theorem cutL_sizes (s : ByteArray) (c : Nat) : ∀ p ∈ cutL s c, p.size ≤ s.size := cutSt_sizes s c (s.size + 1)
theorem cutL_pos (s : ByteArray) (c : Nat) : ∃ m, (cutL s c).length = m + 1 := by
  refine ⟨(cutSt s c s.size).1.length, ?_⟩
  rw [cutL, cutSt, if_pos (.inl rfl)]
  simp
/-- A row of strings that the call has made. -/
theorem strs_row {w : World} {base : Nat} {v : Value} {l : List ByteArray} {m : Nat} (h : w.ownsRow base 9 1 v l.length (l.map encT)) (hm : l.length = m + 1) :
    ∃ g cap, v = .slice (some ⟨g, 0, none⟩) (m + 1) cap ∧ base ≤ g ∧ g < w.heap.size ∧ ∀ j (hj : j < l.length), w.cell? ⟨g, j, none⟩ = some (.string l[j]) := by
  rw [hm] at h
  obtain ⟨g, cap, rfl⟩ := ownsRow_succ h
  obtain ⟨h1, h2⟩ := World.ownsRow.lt h g rfl
  refine ⟨g, cap, rfl, h1, h2, fun j hj => ?_⟩
  have := World.ownsRow.cellAt h j (by omega)
  rw [this, List.getElem?_map, List.getElem?_eq_getElem hj]
  rfl
theorem strs_type {w : World} {base g n m cap : Nat} {xs : List Value} (h : w.ownsRow base 9 1 (.slice (some ⟨g, 0, none⟩) m cap) n xs) : ∃ cur, w.heap[g]? = some (.cells cur 9 (0, 0)) := by
  rcases h.2 with ⟨e, _⟩ | ⟨g', cap', cur, e, _, hg, _⟩
  · simp at e
  · simp only [Value.slice.injEq, Option.some.injEq, Addr.mk.injEq] at e
    obtain ⟨⟨rfl, _⟩, _⟩ := e
    exact ⟨_, hg⟩
theorem strs_apart {w : World} {base g k : Nat} {cur : Array Value} {u : Value} {xs : List Value} (hg : w.heap[g]? = some (.cells cur 9 (0, 0))) (hr : w.ownsRow base 35 4 u k xs) : u.ownBlock ≠ some g := by
  intro e
  rcases hr.2 with ⟨rfl, _⟩ | ⟨g', cap, cur', rfl, _, hg', _⟩
  · cases e
  · simp only [Value.ownBlock, Option.some.injEq] at e
    rw [e, hg] at hg'
    simp only [Option.some.injEq, Obj.cells.injEq] at hg'
    exact absurd hg'.2.1 (by decide)
def ReadOf (s : ByteArray) (c : CaseD) (ok : Bool) : Prop := c.target.size ≤ 1 ∧ ∀ cc, caseB cc = true → s = textS cc → c = cc ∧ ok = true

set_option maxRecDepth 100000 in
set_option maxHeartbeats 4000000 in
theorem l1Read_any (s : ByteArray) (hs : s.size ≤ 2000000) (w : World) :
    Calls Tryd.prog 184 #[.string s] w fun x w' => ∃ (c : CaseD) (ok : Bool), x = .returned (.tuple #[aggC c, .bool ok]) ∧ ReadOf s c ok ∧ RowKit.Below w.heap.size w w' := by
  obtain ⟨wa, hwa⟩ : ∃ wa, wa = w.alloc (.cells #[.int .i64 0, .int .i64 0, .string ⟨#[]⟩, .int .i64 0] 35) := ⟨_, rfl⟩
  have hba : RowKit.Below w.heap.size w wa := by rw [hwa]; exact (Below.refl _ _).alloc (Nat.le_refl _) _
  have d0 : wa.cell? ⟨w.heap.size, 0, none⟩ = some (.int .i64 0) := by rw [hwa]; simp
  have d1 : wa.cell? ⟨w.heap.size, 1, none⟩ = some (.int .i64 0) := by rw [hwa]; simp
  have d2 : wa.cell? ⟨w.heap.size, 2, none⟩ = some (.string ⟨#[]⟩) := by rw [hwa]; simp
  have d3 : wa.cell? ⟨w.heap.size, 3, none⟩ = some (.int .i64 0) := by rw [hwa]; simp
  have f0 : ∀ j, wa.frozen? ⟨w.heap.size, j, none⟩ = false := fun j => by rw [hwa]; simp [go_sem]
  have hz : w.heap.size < wa.heap.size := by rw [hwa]; simp
  have HWA := Lib.hid hwa
  have HBA := Lib.hid hba
  have D := Lib.hid (show _ ∧ _ ∧ _ ∧ _ ∧ _ from ⟨d0, d1, d2, d3, f0⟩)
  have HTA := Lib.hid (target_at s hs wa)
  clear hwa hba d0 d1 d2 d3 f0
  have hsi : (s.size : Int) ≤ 2000000 := by omega
  go_enter Tryd.func184, Tryd.ntmps184
  go_wp2_with fail
  rw [← HWA.out]
  refine HTA.out.mono ?_
  rintro x w1 ⟨z, rfl, hat, hb⟩
  have d0 := (hb.cell (p := ⟨w.heap.size, 0, none⟩) hz).trans D.out.1
  have d1 := (hb.cell (p := ⟨w.heap.size, 1, none⟩) hz).trans D.out.2.1
  have d2 := (hb.cell (p := ⟨w.heap.size, 2, none⟩) hz).trans D.out.2.2.1
  have d3 := (hb.cell (p := ⟨w.heap.size, 3, none⟩) hz).trans D.out.2.2.2.1
  have k0 := (hb.frozen (p := ⟨w.heap.size, 0, none⟩) hz).trans (D.out.2.2.2.2 0)
  have k1 := (hb.frozen (p := ⟨w.heap.size, 1, none⟩) hz).trans (D.out.2.2.2.2 1)
  have k2 := (hb.frozen (p := ⟨w.heap.size, 2, none⟩) hz).trans (D.out.2.2.2.2 2)
  have k3 := (hb.frozen (p := ⟨w.heap.size, 3, none⟩) hz).trans (D.out.2.2.2.2 3)
  have HB1 := Lib.hid (HBA.out.trans (hb.mono HBA.out.size))
  have hz1 : w.heap.size < w1.heap.size := Nat.lt_of_lt_of_le hz hb.size
  have HAT := Lib.hid (fun cc (h : caseB cc = true) (e : s = textS cc) => at_text h (e ▸ hat))
  clear hb D
  rcases hat with ⟨k, hk, rfl, _⟩ | ⟨rfl, _⟩
  · have hki : (k : Int) < (s.size : Int) := by omega
    have hki0 : (0 : Int) ≤ (k : Int) := by omega
    have hk1i : (k : Int) + 1 ≤ (s.size : Int) := by omega
    have hs1 : (s.extract 0 k).size ≤ 2000000 := by simp only [ByteArray.size_extract]; omega
    have hs3 : (s.extract (k + 1) s.size).size ≤ 2000000 := by simp only [ByteArray.size_extract]; omega
    have hsT : (s.extract k (k + 1)).size ≤ 1 := by simp only [ByteArray.size_extract]; omega
    have HCUT := Lib.hid (cut_any (s.extract 0 k) 45 (by decide) hs1 w1)
    have HN3 := Lib.hid (fun W => num_both (s.extract (k + 1) s.size) hs3 W)
    have hsz := cutL_sizes (s.extract 0 k) 45
    obtain ⟨m, hm⟩ := cutL_pos (s.extract 0 k) 45
    have hml := (cutSt_le (s.extract 0 k) 45 ((s.extract 0 k).size + 1)).2
    have hmb : (m : Int) ≤ 2000001 := by
      have : (cutL (s.extract 0 k) 45).length ≤ (s.extract 0 k).size + 1 := hml
      omega
    have HX := Lib.hid (fun cc (h : caseB cc = true) (e : s = textS cc) => by
      have hz := HAT.out cc h e
      have hkk : k = (rangeS cc.low cc.high).size := by omega
      obtain ⟨p1, p2, p3, p4⟩ := parts_text h
      rw [← hkk, ← e] at p1 p2 p3
      have hcr := cut_range (caseB_low h).1 (caseB_low h).2 (caseB_high h).1 (caseB_high h).2
      rw [← p1] at hcr
      exact (⟨hcr, p2, p3⟩ : cutL (s.extract 0 k) 45 = (if cc.low = cc.high then [itoaS cc.low] else [itoaS cc.low, itoaS cc.high]) ∧ s.extract k (k + 1) = cc.target ∧ s.extract (k + 1) s.size = itoaS cc.weight))
    obtain ⟨PL, hPL⟩ : ∃ PL, PL = cutL (s.extract 0 k) 45 := ⟨_, rfl⟩
    rw [← hPL] at HCUT hsz hm HX
    obtain ⟨s1, hs1e⟩ : ∃ t, t = s.extract 0 k := ⟨_, rfl⟩
    obtain ⟨sT, hsTe⟩ : ∃ t, t = s.extract k (k + 1) := ⟨_, rfl⟩
    obtain ⟨s3, hs3e⟩ : ∃ t, t = s.extract (k + 1) s.size := ⟨_, rfl⟩
    have HN1 := Lib.hid (fun W => num_both (PL[0]'(by omega)) (Nat.le_trans (hsz _ (List.getElem_mem _)) hs1) W)
    have HN2 := Lib.hid (fun W => num_both (PL[m]'(by omega)) (Nat.le_trans (hsz _ (List.getElem_mem _)) hs1) W)
    go_wp2_with fail
    refine HCUT.out.mono ?_
    rintro x w2 ⟨v, rfl, ho, hb2⟩
    obtain ⟨g, cp, rfl, hg, hgl, hcell⟩ := strs_row ho hm
    have HB2 := Lib.hid (HB1.out.trans (hb2.mono HB1.out.size))
    have e0 := (hb2.cell (p := ⟨w.heap.size, 0, none⟩) hz1).trans d0
    have e1 := (hb2.cell (p := ⟨w.heap.size, 1, none⟩) hz1).trans d1
    have e2 := (hb2.cell (p := ⟨w.heap.size, 2, none⟩) hz1).trans d2
    have e3 := (hb2.cell (p := ⟨w.heap.size, 3, none⟩) hz1).trans d3
    have j0 := (hb2.frozen (p := ⟨w.heap.size, 0, none⟩) hz1).trans k0
    have j1 := (hb2.frozen (p := ⟨w.heap.size, 1, none⟩) hz1).trans k1
    have j2 := (hb2.frozen (p := ⟨w.heap.size, 2, none⟩) hz1).trans k2
    have j3 := (hb2.frozen (p := ⟨w.heap.size, 3, none⟩) hz1).trans k3
    have x0 := hcell 0 (by omega)
    have xm := hcell m (by omega)
    have hz2 : w.heap.size < w2.heap.size := Nat.lt_of_lt_of_le hz1 hb2.size
    have hmi0 : (0 : Int) ≤ (m : Int) := by omega
    have hmi1 : (m : Int) < (m : Int) + 1 := by omega
    obtain ⟨p0, hp0⟩ : ∃ p, p = PL[0]'(by omega) := ⟨_, rfl⟩
    obtain ⟨pm, hpm⟩ : ∃ p, p = PL[m]'(by omega) := ⟨_, rfl⟩
    rw [← hp0] at x0 HN1
    rw [← hpm] at xm HN2
    have HY := Lib.hid (fun cc (h : caseB cc = true) (e : s = textS cc) => by
      obtain ⟨q1, q2, q3⟩ := HX.out cc h e
      refine (⟨?_, ?_, ?_, q2, q3⟩ : p0 = itoaS cc.low ∧ pm = itoaS cc.high ∧ m ≤ 1 ∧ s.extract k (k + 1) = cc.target ∧ s.extract (k + 1) s.size = itoaS cc.weight)
      · rw [hp0]; simp only [q1]; split <;> rfl
      · rw [hpm]
        by_cases hlh : cc.low = cc.high
        · rw [if_pos hlh] at q1
          have : m = 0 := by rw [q1] at hm; simp at hm; omega
          subst this
          simp only [q1]
          simp [hlh]
        · rw [if_neg hlh] at q1
          have : m = 1 := by rw [q1] at hm; simp at hm; omega
          subst this
          simp only [q1]
          rfl
      · have := congrArg List.length q1
        rw [hm] at this
        split at this <;> simp at this <;> omega)
    rw [← hsTe, ← hs3e] at HY
    clear ho hb2 d0 d1 d2 d3 k0 k1 k2 k3 hcell HX hPL hp0 hpm hsz hm hml
    go_wp2_with fail
    refine (HN1.out _).mono ?_
    rintro e w3 ⟨z1, b1, rfl, n1, rfl⟩
    have N1 := Lib.hid n1
    clear n1
    go_wp2_with fail
    refine (HN2.out _).mono ?_
    rintro e w3 ⟨z2, b2, rfl, n2, rfl⟩
    have N2 := Lib.hid n2
    clear n2
    go_wp2_with fail
    rw [← hs3e] at HN3 ⊢
    refine (HN3.out _).mono ?_
    rintro e w3 ⟨z3, b3, rfl, n3, rfl⟩
    have N3 := Lib.hid n3
    clear n3
    rw [← hsTe] at hsT
    clear hs1e hs3e
    have HFIN := Lib.hid (show ∀ cc, caseB cc = true → s = textS cc → (⟨z1, z2, sT, z3⟩ : CaseD) = cc ∧ b1 = true ∧ b2 = true ∧ b3 = true ∧ m ≤ 1 from fun cc h e => by
      obtain ⟨q1, q2, q3, q4, q5⟩ := HY.out cc h e
      have l1 := caseB_low h
      have l2 := caseB_high h
      have l3 := caseB_weight h
      obtain ⟨a1, a2⟩ := N1.out cc.low l1.1 (by omega) q1
      obtain ⟨a3, a4⟩ := N2.out cc.high l2.1 (by omega) q2
      obtain ⟨a5, a6⟩ := N3.out cc.weight l3.1 l3.2 q5
      exact ⟨by rw [a1, a3, a5, q4], a2, a4, a6, q3⟩)
    have HST := Lib.hid hsTe
    clear hsTe N1 N2 N3 HY HN1 HN2 HN3 x0 xm
    by_cases hm1 : m ≤ 1
    · have hmi : (m : Int) + 1 ≤ 2 := by omega
      cases b1 <;> cases b2 <;> cases b3
      all_goals
        go_wp2_with fail
        rw [← HST.out]
        obtain ⟨y0, y1, y2, y3⟩ := four_cells e0 e1 e2 e3 (.int .i64 z1) (.int .i64 z2) (.string sT) (.int .i64 z3)
        have HBZ := Lib.hid ((((HB2.out.setCell (p := ⟨w.heap.size, 0, none⟩) (Nat.le_refl _) (.int .i64 z1)).setCell (p := ⟨w.heap.size, 1, none⟩) (Nat.le_refl _) (.int .i64 z2)).setCell (p := ⟨w.heap.size, 2, none⟩) (Nat.le_refl _) (.string sT)).setCell (p := ⟨w.heap.size, 3, none⟩) (Nat.le_refl _) (.int .i64 z3))
        generalize (((w3.setCell ⟨w.heap.size, 0, none⟩ (.int .i64 z1)).setCell ⟨w.heap.size, 1, none⟩ (.int .i64 z2)).setCell ⟨w.heap.size, 2, none⟩ (.string sT)).setCell ⟨w.heap.size, 3, none⟩ (.int .i64 z3) = wz at y0 y1 y2 y3 HBZ ⊢
        refine bodyPost_ret (v := .tuple #[.agg #[.int .i64 z1, .int .i64 z2, .string sT, .int .i64 z3], .bool _]) (by simp [results, Tryd.results184, go_sem, y0, y1, y2, y3]; try rfl) rfl ⟨⟨z1, z2, sT, z3⟩, _, rfl, ⟨hsT, fun cc h e => ⟨(HFIN.out cc h e).1, ?_⟩⟩, HBZ.out⟩
        obtain ⟨_, a, b, c, _⟩ := HFIN.out cc h e
        first
          | rfl
          | exact a
          | exact b
          | exact c
    · have hmi : 2 < (m : Int) + 1 := by omega
      cases b1 <;> cases b2 <;> cases b3
      all_goals
        go_wp2_with fail
        rw [← HST.out]
        obtain ⟨y0, y1, y2, y3⟩ := four_cells e0 e1 e2 e3 (.int .i64 z1) (.int .i64 z2) (.string sT) (.int .i64 z3)
        have HBZ := Lib.hid ((((HB2.out.setCell (p := ⟨w.heap.size, 0, none⟩) (Nat.le_refl _) (.int .i64 z1)).setCell (p := ⟨w.heap.size, 1, none⟩) (Nat.le_refl _) (.int .i64 z2)).setCell (p := ⟨w.heap.size, 2, none⟩) (Nat.le_refl _) (.string sT)).setCell (p := ⟨w.heap.size, 3, none⟩) (Nat.le_refl _) (.int .i64 z3))
        generalize (((w3.setCell ⟨w.heap.size, 0, none⟩ (.int .i64 z1)).setCell ⟨w.heap.size, 1, none⟩ (.int .i64 z2)).setCell ⟨w.heap.size, 2, none⟩ (.string sT)).setCell ⟨w.heap.size, 3, none⟩ (.int .i64 z3) = wz at y0 y1 y2 y3 HBZ ⊢
        refine bodyPost_ret (v := .tuple #[.agg #[.int .i64 z1, .int .i64 z2, .string sT, .int .i64 z3], .bool _]) (by simp [results, Tryd.results184, go_sem, y0, y1, y2, y3]; try rfl) rfl ⟨⟨z1, z2, sT, z3⟩, _, rfl, ⟨hsT, fun cc h e => absurd (HFIN.out cc h e).2.2.2.2 hm1⟩, HBZ.out⟩
  · have HNO := Lib.hid (show ∀ cc, caseB cc = true → s = textS cc → False from fun cc h e => by have := HAT.out cc h e; omega)
    go_wp2_with fail
    obtain ⟨z0, z1, z2, z3⟩ := four_cells d0 d1 d2 d3 (.int .i64 0) (.int .i64 0) (.string ⟨#[]⟩) (.int .i64 0)
    have HBZ := Lib.hid ((((HB1.out.setCell (p := ⟨w.heap.size, 0, none⟩) (Nat.le_refl _) (.int .i64 0)).setCell (p := ⟨w.heap.size, 1, none⟩) (Nat.le_refl _) (.int .i64 0)).setCell (p := ⟨w.heap.size, 2, none⟩) (Nat.le_refl _) (.string ⟨#[]⟩)).setCell (p := ⟨w.heap.size, 3, none⟩) (Nat.le_refl _) (.int .i64 0))
    generalize (((w1.setCell ⟨w.heap.size, 0, none⟩ (.int .i64 0)).setCell ⟨w.heap.size, 1, none⟩ (.int .i64 0)).setCell ⟨w.heap.size, 2, none⟩ (.string ⟨#[]⟩)).setCell ⟨w.heap.size, 3, none⟩ (.int .i64 0) = wz at z0 z1 z2 z3 HBZ ⊢
    refine bodyPost_ret (v := .tuple #[.agg #[.int .i64 0, .int .i64 0, .string ⟨#[]⟩, .int .i64 0], .bool false]) (by simp [results, Tryd.results184, go_sem, z0, z1, z2, z3]) rfl ⟨⟨0, 0, ⟨#[]⟩, 0⟩, false, rfl, ⟨by decide, fun cc h e => (HNO.out cc h e).elim⟩, HBZ.out⟩
end Go.Proofs.YtoiljohaicpncaaDoor
