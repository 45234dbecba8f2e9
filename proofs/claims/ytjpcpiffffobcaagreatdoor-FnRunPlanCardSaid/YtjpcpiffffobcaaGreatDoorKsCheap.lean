
/- The cheapest cluster of some cases, and whether a switch has them: the program's. -/
import Derived.Test.YtjpcpiffffobcaaGreatDoorKsPri
namespace Go.Proofs.YtjpcpiffffobcaaGreatDoor
open Go.RowKit Go.Shelf Go.Lib Go.Sort

noncomputable def hasB8 (d : Array CaseD) (rest first last : Int) : Bool := swB d rest && decide (0 ≤ first ∧ first ≤ last ∧ last < d.size)
set_option maxRecDepth 100000 in
set_option maxHeartbeats 1000000 in
theorem hasCases_any (b off cap : Nat) (d : Array CaseD) (rest first last : Int) (w : World) (hR : RowC w b off d) (hE : ErrAt w) (hcap : d.size ≤ cap) (hmax : cap ≤ maxLen) :
    Calls Tryz.prog 55 #[.agg #[.slice (some ⟨b, off, none⟩) d.size cap, .int .i64 rest], .int .i64 first, .int .i64 last] w fun x w' => x = .returned (.bool (hasB8 d rest first last)) ∧ RowKit.Below w.heap.size w w' := by
  have HV := Lib.hid (fun W (hW : RowKit.Below w.heap.size w W) => switchValid_any b off cap d rest W (hR.below hW) (hE.below hW) hcap hmax)
  have HH := Lib.hid (show hasB8 d rest first last = (swB d rest && decide (0 ≤ first ∧ first ≤ last ∧ last < d.size)) from rfl)
  obtain ⟨wa, hwa⟩ : ∃ wa, wa = w.alloc (.cells #[.slice (some ⟨b, off, none⟩) d.size cap, .int .i64 rest] 32) := ⟨_, rfl⟩
  have hba : RowKit.Below w.heap.size w wa := by rw [hwa]; exact (Below.refl _ _).alloc (Nat.le_refl _) _
  have c0 : wa.cell? ⟨w.heap.size, 0, none⟩ = some (.slice (some ⟨b, off, none⟩) d.size cap) := by rw [hwa]; simp
  have c1 : wa.cell? ⟨w.heap.size, 1, none⟩ = some (.int .i64 rest) := by rw [hwa]; simp
  have hz : w.heap.size < wa.heap.size := by rw [hwa]; simp
  have HWA := Lib.hid hwa
  have HBA := Lib.hid hba
  obtain ⟨n, hn⟩ : ∃ n, n = d.size := ⟨_, rfl⟩
  rw [← hn] at HV HWA HH c0 ⊢
  clear hwa hba hR hE hcap hmax hn
  cases hs : swB d rest with
  | false =>
    rw [hs] at HV HH
    clear hs
    go_enter Tryz.func55, Tryz.ntmps55
    go_wp2_with fail
    rw [← HWA.out]
    go_wp2_with fail
    refine (HV.out _ HBA.out).mono ?_
    rintro y w1 ⟨rfl, hb⟩
    have HB := Lib.hid (HBA.out.trans (hb.mono HBA.out.size))
    clear hb c0 c1
    go_wp2_with fail
    go_ret
    exact ⟨retB (by rw [HH.out]; rfl), HB.out⟩
  | true =>
    rw [hs] at HV HH
    clear hs
    by_cases h1 : 0 ≤ first
    · by_cases h2 : first ≤ last
      · have HH2 := Lib.hid (show hasB8 d rest first last = decide (last < n) by rw [HH.out]; simp [h1, h2])
        have hcase : last < (n : Int) ∨ ¬ last < (n : Int) := Decidable.em _
        rcases hcase with h3 | h3
        · have HH3 := Lib.hid (HH2.out.trans (decide_eq_true h3))
          go_enter Tryz.func55, Tryz.ntmps55
          go_wp2_with fail
          rw [← HWA.out]
          go_wp2_with fail
          refine (HV.out _ HBA.out).mono ?_
          rintro y w1 ⟨rfl, hb⟩
          have HB := Lib.hid (HBA.out.trans (hb.mono HBA.out.size))
          have e0 := (hb.cell (p := ⟨w.heap.size, 0, none⟩) hz).trans c0
          clear hb c0 c1
          go_wp2_with fail
          go_ret
          exact ⟨retB HH3.out.symm, HB.out⟩
        · go_enter Tryz.func55, Tryz.ntmps55
          go_wp2_with fail
          rw [← HWA.out]
          go_wp2_with fail
          refine (HV.out _ HBA.out).mono ?_
          rintro y w1 ⟨rfl, hb⟩
          have HB := Lib.hid (HBA.out.trans (hb.mono HBA.out.size))
          have e0 := (hb.cell (p := ⟨w.heap.size, 0, none⟩) hz).trans c0
          clear hb c0 c1
          go_wp2_with fail
          go_ret
          exact ⟨retB HH2.out.symm, HB.out⟩
      · have HH2 := Lib.hid (show hasB8 d rest first last = false by rw [HH.out]; simp [h2])
        go_enter Tryz.func55, Tryz.ntmps55
        go_wp2_with fail
        rw [← HWA.out]
        go_wp2_with fail
        refine (HV.out _ HBA.out).mono ?_
        rintro y w1 ⟨rfl, hb⟩
        have HB := Lib.hid (HBA.out.trans (hb.mono HBA.out.size))
        clear hb c0 c1
        go_wp2_with fail
        go_ret
        exact ⟨retB HH2.out.symm, HB.out⟩
    · have HH2 := Lib.hid (show hasB8 d rest first last = false by rw [HH.out]; simp [h1])
      go_enter Tryz.func55, Tryz.ntmps55
      go_wp2_with fail
      rw [← HWA.out]
      go_wp2_with fail
      refine (HV.out _ HBA.out).mono ?_
      rintro y w1 ⟨rfl, hb⟩
      have HB := Lib.hid (HBA.out.trans (hb.mono HBA.out.size))
      clear hb c0 c1
      go_wp2_with fail
      go_ret
      exact ⟨retB HH2.out.symm, HB.out⟩

theorem set3_cells (w : World) (g : Nat) {u0 u1 u2 : Value} (v0 v1 v2 : Value) (h0 : w.cell? ⟨g, 0, none⟩ = some u0) (h1 : w.cell? ⟨g, 1, none⟩ = some u1) (h2 : w.cell? ⟨g, 2, none⟩ = some u2) :
    (((w.setCell ⟨g, 0, none⟩ v0).setCell ⟨g, 1, none⟩ v1).setCell ⟨g, 2, none⟩ v2).cell? ⟨g, 0, none⟩ = some v0 ∧ (((w.setCell ⟨g, 0, none⟩ v0).setCell ⟨g, 1, none⟩ v1).setCell ⟨g, 2, none⟩ v2).cell? ⟨g, 1, none⟩ = some v1 ∧
    (((w.setCell ⟨g, 0, none⟩ v0).setCell ⟨g, 1, none⟩ v1).setCell ⟨g, 2, none⟩ v2).cell? ⟨g, 2, none⟩ = some v2 := by
  have o1 : ∀ (W : World) (x y : Nat) (v : Value), x ≠ y → (W.setCell ⟨g, x, none⟩ v).cell? ⟨g, y, none⟩ = W.cell? ⟨g, y, none⟩ := fun W x y v h => World.cell?_setCell_other _ _ _ _ (fun e => h (by cases e; rfl))
  have e0 := World.cell?_setCell_same w ⟨g, 0, none⟩ v0 h0
  have e1 := World.cell?_setCell_same (w.setCell ⟨g, 0, none⟩ v0) ⟨g, 1, none⟩ v1 ((o1 _ 0 1 _ (by decide)).trans h1)
  have e2 := World.cell?_setCell_same ((w.setCell ⟨g, 0, none⟩ v0).setCell ⟨g, 1, none⟩ v1) ⟨g, 2, none⟩ v2 ((o1 _ 1 2 _ (by decide)).trans ((o1 _ 0 2 _ (by decide)).trans h2))
  exact ⟨(o1 _ 2 0 _ (by decide)).trans ((o1 _ 1 0 _ (by decide)).trans e0), (o1 _ 2 1 _ (by decide)).trans e1, e2⟩

/-- Whether the j-th kind is better than those before it. -/
def betterP (p l : Int) : Bool := decide (p ≠ -1 ∧ (l = -1 ∨ p < l))
theorem bestTo8_yes {e : Array CaseD} {j : Nat} (h : betterP (priceE e j) (bestTo8 e j).2 = true) : bestTo8 e (j + 1) = (nameK j, priceE e j) := by
  rw [bestTo8, if_pos (by simpa [betterP] using h)]
theorem bestTo8_no {e : Array CaseD} {j : Nat} (h : betterP (priceE e j) (bestTo8 e j).2 = false) : bestTo8 e (j + 1) = bestTo8 e j := by
  rw [bestTo8, if_neg (by simpa [betterP] using h)]

/-- What lies at a kind's place: its dynamic type, and what its two methods are. -/
def KindAs (w : World) (e : Array CaseD) (sl : Value) (j : Nat) (T : TypeId) (g1 g2 : FuncId) : Prop :=
  (∀ W, Sem.run Tryz.prog (nilAhead 328 T (.agg #[]) "loop.example/keyswitches/impl.price") W = .ok (some false) W) ∧
  ((∀ W, Sem.run Tryz.prog (method 328 T (.agg #[]) "loop.example/keyswitches/impl.price") W = .ok (g1, .agg #[]) W) ∧ (∀ args W, (callFunc g1 args).run Tryz.prog W = .ok (.enter g1 args) W) ∧
    ∀ W, RowKit.Below w.heap.size w W → Calls Tryz.prog g1 #[.agg #[], sl] W fun x w' => x = .returned (.int .i64 (priceE e j)) ∧ RowKit.Below W.heap.size W w') ∧
  ((∀ W, Sem.run Tryz.prog (method 328 T (.agg #[]) "loop.example/keyswitches/impl.name") W = .ok (g2, .agg #[]) W) ∧ (∀ args W, (callFunc g2 args).run Tryz.prog W = .ok (.enter g2 args) W) ∧
    ∀ W, Calls Tryz.prog g2 #[.agg #[]] W fun x w' => x = .returned (.string (nameK j)) ∧ RowKit.Below W.heap.size W w')
def kindT8 : Nat → TypeId
  | 0 => 148
  | 1 => 149
  | _ => 150
theorem kindAs_all {w : World} {b off cap : Nat} {e : Array CaseD} (hR : RowC w b off e) (hE : ErrAt w) (hok : SwOK e 0) (h0 : 0 < e.size) (hcap : e.size ≤ cap) (hmax : cap ≤ maxLen) : ∀ j, j < 3 → ∃ g1 g2, KindAs w e (.slice (some ⟨b, off, none⟩) e.size cap) j (kindT8 j) g1 g2
  | 0, _ => ⟨153, 152, nil_t, ⟨inv_tp, enters_of Tryz.func153 (by kernel_rfl) rfl, fun W hW => testPrice_any b off cap e 0 W (hR.below hW) hok h0⟩, inv_tn, enters_of Tryz.func152 (by kernel_rfl) rfl, testName_any⟩
  | 1, _ => ⟨156, 155, nil_b, ⟨inv_bp, enters_of Tryz.func156 (by kernel_rfl) rfl, fun W hW => tablePrice_any b off cap e 0 W (hR.below hW) hok h0⟩, inv_bn, enters_of Tryz.func155 (by kernel_rfl) rfl, tableName_any⟩
  | 2, _ => ⟨158, 157, nil_c, ⟨inv_cp, enters_of Tryz.func158 (by kernel_rfl) rfl, fun W hW => bitsPrice_any b off cap e W (hR.below hW) (hE.below hW) hok h0 hcap hmax⟩, inv_cn, enters_of Tryz.func157 (by kernel_rfl) rfl, bitsName_any⟩
theorem betterP_cases {p l : Int} (hp : p = -1 ∨ (1 ≤ p ∧ p ≤ 18)) (hl : l = -1 ∨ (1 ≤ l ∧ l ≤ 18)) :
    (p = -1 ∧ betterP p l = false) ∨ ((1 ≤ p ∧ p ≤ 18) ∧ l = -1 ∧ betterP p l = true) ∨ ((1 ≤ p ∧ p ≤ 18) ∧ (1 ≤ l ∧ l ≤ 18) ∧ p < l ∧ betterP p l = true) ∨ ((1 ≤ p ∧ p ≤ 18) ∧ (1 ≤ l ∧ l ≤ 18) ∧ ¬ p < l ∧ betterP p l = false) := by
  unfold betterP
  rcases hp with rfl | hp
  · left; simp
  · rcases hl with rfl | hl
    · right; left; exact ⟨hp, rfl, by simp; omega⟩
    · by_cases h : p < l
      · right; right; left; exact ⟨hp, hl, h, by simp; omega⟩
      · right; right; right; exact ⟨hp, hl, h, by simp; omega⟩

set_option maxRecDepth 100000 in
set_option maxHeartbeats 4000000 in
theorem cheapest_any (b off cap : Nat) (d : Array CaseD) (rest : Int) (i k : Nat) (w : World) (hR : RowC w b off d) (hE : ErrAt w) (hcap : d.size ≤ cap) (hmax : cap ≤ maxLen) (hok : SwOK d rest) (hik : i ≤ k) (hk : k < d.size) :
    Calls Tryz.prog 62 #[.agg #[.slice (some ⟨b, off, none⟩) d.size cap, .int .i64 rest], .int .i64 i, .int .i64 k] w fun x w' =>
      x = .returned (.tuple #[.agg #[.int .i64 i, .int .i64 k, .string (bestN8 (subD d i k))], .int .i64 (bestP8 (subD d i k))]) ∧ RowKit.Below w.heap.size w w' := by
  obtain ⟨e, he⟩ : ∃ e, e = subD d i k := ⟨_, rfl⟩
  have he0 : 0 < e.size := by rw [he, subD_size hk]; omega
  have heok : SwOK e 0 := by rw [he]; exact hok.sub hk
  have her : ∀ W, RowKit.Below w.heap.size w W → RowC W b (off + i * 4) e := fun W hW => by rw [he]; exact (hR.below hW).sub hk
  have hec : e.size ≤ cap - i := by rw [he, subD_size hk]; omega
  have hem : cap - i ≤ maxLen := by omega
  have HIN := Lib.hid (fun s W => inC_any b off cap d rest i k s W hik hk hcap hok.size)
  rw [← he] at HIN ⊢
  have HK := Lib.hid (kindAs_all (her w (Below.refl _ _)) hE heok he0 hec hem)
  have HBD := Lib.hid (fun j => bestTo8_or heok he0 j)
  have HPD := Lib.hid (fun j => priceE_or heok he0 j)
  have HY := Lib.hid (fun j => @bestTo8_yes e j)
  have HN := Lib.hid (fun j => @bestTo8_no e j)
  have HE2 := Lib.hid (show bestTo8 e 3 = (bestN8 e, bestP8 e) from rfl)
  obtain ⟨n, hn⟩ : ∃ n, n = e.size := ⟨_, rfl⟩
  rw [← hn] at HIN HK
  clear her hec hem heok he0 he hn hR hE hmax hok
  go_enter Tryz.func62, Tryz.ntmps62
  go_wp2_with (go_at_call 81; refine (kinds_any _).mono ?_; rintro y w1 ⟨rfl, rfl⟩)
  obtain ⟨wa, hwa⟩ : ∃ wa, wa = (((w.alloc (.cells #[.slice (some ⟨b, off, none⟩) d.size cap, .int .i64 rest] 32)).alloc (.cells #[.int .i64 0, .int .i64 0, .string ⟨#[]⟩] 45)).alloc (.cells #[.int .i64 i, .int .i64 k, .string ⟨#[]⟩] 45)).alloc (.cells #[.iface 148 (.agg #[]), .iface 149 (.agg #[]), .iface 150 (.agg #[])] 123) := ⟨_, rfl⟩
  have hba : RowKit.Below w.heap.size w wa := by rw [hwa]; exact ((((Below.refl _ _).alloc (Nat.le_refl _) _).alloc (by simp) _).alloc (by simp; omega) _).alloc (by simp; omega) _
  have z0 : wa.heap.size = w.heap.size + 4 := by rw [hwa]; simp
  have a0 : wa.cell? ⟨w.heap.size, 0, none⟩ = some (.slice (some ⟨b, off, none⟩) d.size cap) := by rw [hwa]; simp [go_sem]
  have a1 : wa.cell? ⟨w.heap.size, 1, none⟩ = some (.int .i64 rest) := by rw [hwa]; simp [go_sem]
  have r0 : wa.cell? ⟨w.heap.size + 1, 0, none⟩ = some (.int .i64 0) := by rw [hwa]; simp [go_sem]
  have r1 : wa.cell? ⟨w.heap.size + 1, 1, none⟩ = some (.int .i64 0) := by rw [hwa]; simp [go_sem]
  have r2 : wa.cell? ⟨w.heap.size + 1, 2, none⟩ = some (.string ⟨#[]⟩) := by rw [hwa]; simp [go_sem]
  have rf : ∀ j, wa.frozen? ⟨w.heap.size + 1, j, none⟩ = false := fun j => by rw [hwa]; simp [go_sem]
  have b0 : wa.cell? ⟨w.heap.size + 1 + 1, 0, none⟩ = some (.int .i64 i) := by rw [hwa]; simp [go_sem]
  have b1 : wa.cell? ⟨w.heap.size + 1 + 1, 1, none⟩ = some (.int .i64 k) := by rw [hwa]; simp [go_sem]
  have b2 : wa.cell? ⟨w.heap.size + 1 + 1, 2, none⟩ = some (.string ⟨#[]⟩) := by rw [hwa]; simp [go_sem]
  have bf : ∀ j, wa.frozen? ⟨w.heap.size + 1 + 1, j, none⟩ = false := fun j => by rw [hwa]; simp [go_sem]
  have k0 : ∀ j, j < 3 → wa.cell? ⟨w.heap.size + 1 + 1 + 1, j, none⟩ = some (.iface (kindT8 j) (.agg #[])) := fun j hj => by
    match j, hj with
    | 0, _ => rw [hwa]; simp [go_sem, kindT8]
    | 1, _ => rw [hwa]; simp [go_sem, kindT8]
    | 2, _ => rw [hwa]; simp [go_sem, kindT8]
  rw [← hwa]
  have HBA := Lib.hid hba
  have hzz : w.heap.size + 1 + 1 + 1 < wa.heap.size := by omega
  have HRF := Lib.hid rf
  have HBF := Lib.hid bf
  have HK0 := Lib.hid k0
  clear hwa hba z0 rf bf k0
  go_loopw [9, 18] (fun l x wr => ∃ j : Nat, l = .int .i64 (bestTo8 e j).2 ∧ x = .int .i64 j ∧ j ≤ 3 ∧
    wr.cell? ⟨w.heap.size, 0, none⟩ = some (.slice (some ⟨b, off, none⟩) d.size cap) ∧ wr.cell? ⟨w.heap.size, 1, none⟩ = some (.int .i64 rest) ∧
    wr.cell? ⟨w.heap.size + 1, 0, none⟩ = some (.int .i64 0) ∧ wr.cell? ⟨w.heap.size + 1, 1, none⟩ = some (.int .i64 0) ∧ wr.cell? ⟨w.heap.size + 1, 2, none⟩ = some (.string ⟨#[]⟩) ∧
    wr.cell? ⟨w.heap.size + 1 + 1, 0, none⟩ = some (.int .i64 i) ∧ wr.cell? ⟨w.heap.size + 1 + 1, 1, none⟩ = some (.int .i64 k) ∧ wr.cell? ⟨w.heap.size + 1 + 1, 2, none⟩ = some (.string (bestTo8 e j).1) ∧
    Hid (∀ o, wr.frozen? ⟨w.heap.size + 1, o, none⟩ = false) ∧ Hid (∀ o, wr.frozen? ⟨w.heap.size + 1 + 1, o, none⟩ = false) ∧ Hid (∀ q, q < 3 → wr.cell? ⟨w.heap.size + 1 + 1 + 1, q, none⟩ = some (.iface (kindT8 q) (.agg #[]))) ∧
    Hid (RowKit.Below w.heap.size w wr) ∧ w.heap.size + 1 + 1 + 1 < wr.heap.size) (fun _ x _ => 3 - (intOf x).toNat)
  case atStart => exact ⟨0, rfl, rfl, by omega, a0, a1, r0, r1, r2, b0, b1, b2, HRF.out, HBF.out, HK0.out, HBA.out, hzz⟩
  case round =>
    obtain ⟨j, rfl, rfl, hj, a0, a1, r0, r1, r2, b0, b1, b2, RF, BF, KK, HW, hzr⟩ := hrel
    by_cases hlt : j < 3
    · obtain ⟨g1, g2, hnl, ⟨hm1, he1, hc1⟩, hm2, he2, hc2⟩ := HK.out j hlt
      have kj := KK.out j hlt
      have hcs := betterP_cases (HPD.out j) (HBD.out j)
      have HYJ := Lib.hid (HY.out j)
      have HNJ := Lib.hid (HN.out j)
      have HC1 := Lib.hid hc1
      have HC2 := Lib.hid hc2
      obtain ⟨l, hl⟩ : ∃ l, l = (bestTo8 e j).2 := ⟨_, rfl⟩
      obtain ⟨s, hs⟩ : ∃ s, s = (bestTo8 e j).1 := ⟨_, rfl⟩
      obtain ⟨p, hp⟩ : ∃ p, p = priceE e j := ⟨_, rfl⟩
      have HS := Lib.hid (show bestTo8 e j = (s, l) by rw [hl, hs])
      rw [← hl] at hcs HYJ HNJ ⊢
      rw [← hs] at b2
      rw [← hp] at hcs HC1 HYJ HNJ
      obtain ⟨T, hT⟩ : ∃ T, T = kindT8 j := ⟨_, rfl⟩
      rw [← hT] at hm1 hm2 hnl kj
      clear hc1 hc2 hl hs hp hT
      have hji : (j : Int) < 3 := by omega
      go_wp2_with fail
      have B0 := fun P : BW wr => P.cell (a := ⟨w.heap.size, 0, none⟩) (by show w.heap.size < wr.heap.size; omega) a0
      have B1 := fun P : BW wr => P.cell (a := ⟨w.heap.size, 1, none⟩) (by show w.heap.size < wr.heap.size; omega) a1
      have B2 := fun P : BW wr => P.cell (a := ⟨w.heap.size + 1 + 1, 0, none⟩) (by show w.heap.size + 1 + 1 < wr.heap.size; omega) b0
      have B3 := fun P : BW wr => P.cell (a := ⟨w.heap.size + 1 + 1, 1, none⟩) (by show w.heap.size + 1 + 1 < wr.heap.size; omega) b1
      have B4 := fun P : BW wr => P.cell (a := ⟨w.heap.size + 1 + 1, 2, none⟩) (by show w.heap.size + 1 + 1 < wr.heap.size; omega) b2
      have J1 := Lib.hid (fun P : BW wr => HC1.out P.W (HW.out.trans (P.h.mono HW.out.size)))
      refine wp_region_bw (by kernel_rfl) (by kernel_rfl) ?_
      repeat (go_big_quiet_step ((first | (go_at_call 43; refine bw_of (HIN.out _ _)) | (go_at_fn g1; refine bw_of (J1.out _)))))
      refine wpQuiet_nil ?_
      rintro _ ⟨P, rfl⟩
      have hb := P.h
      generalize P.W = w2 at hb ⊢
      have o0 : w.heap.size < wr.heap.size := by omega
      have o1 : w.heap.size + 1 < wr.heap.size := by omega
      have o2 : w.heap.size + 1 + 1 < wr.heap.size := by omega
      have A0 := (hb.cell (p := ⟨w.heap.size, 0, none⟩) o0).trans a0
      have A1 := (hb.cell (p := ⟨w.heap.size, 1, none⟩) o0).trans a1
      have R0 := (hb.cell (p := ⟨w.heap.size + 1, 0, none⟩) o1).trans r0
      have R1 := (hb.cell (p := ⟨w.heap.size + 1, 1, none⟩) o1).trans r1
      have R2 := (hb.cell (p := ⟨w.heap.size + 1, 2, none⟩) o1).trans r2
      have C0 := (hb.cell (p := ⟨w.heap.size + 1 + 1, 0, none⟩) o2).trans b0
      have C1 := (hb.cell (p := ⟨w.heap.size + 1 + 1, 1, none⟩) o2).trans b1
      have C2 := (hb.cell (p := ⟨w.heap.size + 1 + 1, 2, none⟩) o2).trans b2
      have RF2 := Lib.hid (fun o => (hb.frozen (p := ⟨w.heap.size + 1, o, none⟩) o1).trans (RF.out o))
      have BF2 := Lib.hid (fun o => (hb.frozen (p := ⟨w.heap.size + 1 + 1, o, none⟩) o2).trans (BF.out o))
      have KK2 := Lib.hid (fun q hq => (hb.cell (p := ⟨w.heap.size + 1 + 1 + 1, q, none⟩) hzr).trans (KK.out q hq))
      have HW2 := Lib.hid (HW.out.trans (hb.mono HW.out.size))
      have hz2 : w.heap.size + 1 + 1 + 1 < w2.heap.size := Nat.lt_of_lt_of_le hzr hb.size
      clear hb a0 a1 r0 r1 r2 b0 b1 b2 RF BF KK HW B0 B1 B2 B3 B4 J1
      clear kj o0 o1 o2
      have hf2 := BF2.out 2
      rcases hcs with ⟨rfl, hbt⟩ | ⟨hp, rfl, hbt⟩ | ⟨hp, hl, hpl, hbt⟩ | ⟨hp, hl, hpl, hbt⟩
      · have HNX := Lib.hid ((HNJ.out hbt).trans HS.out)
        clear hbt
        go_wp2_with fail
        go_roundw
        case rel => exact ⟨j + 1, by rw [HNX.out], by go_num, by omega, A0, A1, R0, R1, R2, C0, C1, by rw [HNX.out]; exact C2, RF2.out, BF2.out, KK2.out, HW2.out, hz2⟩
        case measure => simp [intOf]; omega
      · have HNX := Lib.hid (HYJ.out hbt)
        clear hbt
        have hp1 : (p == -1) = false := by simp; omega
        go_wp2_with (go_at_fn g2; refine (HC2.out _).mono ?_; rintro y w3 ⟨rfl, hb3⟩; have HB3 := Lib.hid hb3; have e2 := (hb3.cell (p := ⟨w.heap.size + 1 + 1, 2, none⟩) (Nat.lt_of_succ_lt hz2)).trans C2; have ef := (hb3.frozen (p := ⟨w.heap.size + 1 + 1, 2, none⟩) (Nat.lt_of_succ_lt hz2)).trans hf2; clear hb3)
        go_roundw
        case rel =>
          have hb3 := HB3.out
          have q0 : w.heap.size < w2.heap.size := by omega
          have q1 : w.heap.size + 1 < w2.heap.size := by omega
          have q2 : w.heap.size + 1 + 1 < w2.heap.size := by omega
          have oc : ∀ (bl o : Nat), ¬ (bl = w.heap.size + 1 + 1 ∧ o = 2) → ∀ v, (w3.setCell ⟨w.heap.size + 1 + 1, 2, none⟩ v).cell? ⟨bl, o, none⟩ = w3.cell? ⟨bl, o, none⟩ := fun bl o h v => World.cell?_setCell_other _ _ _ _ (fun e => h (by cases e; exact ⟨rfl, rfl⟩))
          have HH := HW2.out.trans (hb3.mono HW2.out.size)
          refine ⟨j + 1, by rw [HNX.out], by go_num, by omega, (oc _ _ (by omega) _).trans ((hb3.cell (p := ⟨w.heap.size, 0, none⟩) q0).trans A0), (oc _ _ (by omega) _).trans ((hb3.cell (p := ⟨w.heap.size, 1, none⟩) q0).trans A1),
            (oc _ _ (by omega) _).trans ((hb3.cell (p := ⟨w.heap.size + 1, 0, none⟩) q1).trans R0), (oc _ _ (by omega) _).trans ((hb3.cell (p := ⟨w.heap.size + 1, 1, none⟩) q1).trans R1), (oc _ _ (by omega) _).trans ((hb3.cell (p := ⟨w.heap.size + 1, 2, none⟩) q1).trans R2),
            (oc _ _ (by omega) _).trans ((hb3.cell (p := ⟨w.heap.size + 1 + 1, 0, none⟩) q2).trans C0), (oc _ _ (by omega) _).trans ((hb3.cell (p := ⟨w.heap.size + 1 + 1, 1, none⟩) q2).trans C1), by rw [HNX.out]; exact World.cell?_setCell_same _ _ _ e2,
            fun o => ?_, fun o => ?_, fun q hq => (oc _ _ (by omega) _).trans ((hb3.cell (p := ⟨w.heap.size + 1 + 1 + 1, q, none⟩) hz2).trans (KK2.out q hq)), HH.setCell (p := ⟨w.heap.size + 1 + 1, 2, none⟩) (by show w.heap.size ≤ w.heap.size + 1 + 1; omega) _, by simpa [World.setCell] using Nat.lt_of_lt_of_le hz2 hb3.size⟩
          · rw [World.frozen?_setCell]; exact (hb3.frozen (p := ⟨w.heap.size + 1, o, none⟩) q1).trans (RF2.out o)
          · rw [World.frozen?_setCell]; exact (hb3.frozen (p := ⟨w.heap.size + 1 + 1, o, none⟩) q2).trans (BF2.out o)
        case measure => simp [intOf]; omega
      · have HNX := Lib.hid (HYJ.out hbt)
        clear hbt
        have hp1 : (p == -1) = false := by simp; omega
        have hl1 : (l == -1) = false := by simp; omega
        go_wp2_with (go_at_fn g2; refine (HC2.out _).mono ?_; rintro y w3 ⟨rfl, hb3⟩; have HB3 := Lib.hid hb3; have e2 := (hb3.cell (p := ⟨w.heap.size + 1 + 1, 2, none⟩) (Nat.lt_of_succ_lt hz2)).trans C2; have ef := (hb3.frozen (p := ⟨w.heap.size + 1 + 1, 2, none⟩) (Nat.lt_of_succ_lt hz2)).trans hf2; clear hb3)
        go_roundw
        case rel =>
          have hb3 := HB3.out
          have q0 : w.heap.size < w2.heap.size := by omega
          have q1 : w.heap.size + 1 < w2.heap.size := by omega
          have q2 : w.heap.size + 1 + 1 < w2.heap.size := by omega
          have oc : ∀ (bl o : Nat), ¬ (bl = w.heap.size + 1 + 1 ∧ o = 2) → ∀ v, (w3.setCell ⟨w.heap.size + 1 + 1, 2, none⟩ v).cell? ⟨bl, o, none⟩ = w3.cell? ⟨bl, o, none⟩ := fun bl o h v => World.cell?_setCell_other _ _ _ _ (fun e => h (by cases e; exact ⟨rfl, rfl⟩))
          have HH := HW2.out.trans (hb3.mono HW2.out.size)
          refine ⟨j + 1, by rw [HNX.out], by go_num, by omega, (oc _ _ (by omega) _).trans ((hb3.cell (p := ⟨w.heap.size, 0, none⟩) q0).trans A0), (oc _ _ (by omega) _).trans ((hb3.cell (p := ⟨w.heap.size, 1, none⟩) q0).trans A1),
            (oc _ _ (by omega) _).trans ((hb3.cell (p := ⟨w.heap.size + 1, 0, none⟩) q1).trans R0), (oc _ _ (by omega) _).trans ((hb3.cell (p := ⟨w.heap.size + 1, 1, none⟩) q1).trans R1), (oc _ _ (by omega) _).trans ((hb3.cell (p := ⟨w.heap.size + 1, 2, none⟩) q1).trans R2),
            (oc _ _ (by omega) _).trans ((hb3.cell (p := ⟨w.heap.size + 1 + 1, 0, none⟩) q2).trans C0), (oc _ _ (by omega) _).trans ((hb3.cell (p := ⟨w.heap.size + 1 + 1, 1, none⟩) q2).trans C1), by rw [HNX.out]; exact World.cell?_setCell_same _ _ _ e2,
            fun o => ?_, fun o => ?_, fun q hq => (oc _ _ (by omega) _).trans ((hb3.cell (p := ⟨w.heap.size + 1 + 1 + 1, q, none⟩) hz2).trans (KK2.out q hq)), HH.setCell (p := ⟨w.heap.size + 1 + 1, 2, none⟩) (by show w.heap.size ≤ w.heap.size + 1 + 1; omega) _, by simpa [World.setCell] using Nat.lt_of_lt_of_le hz2 hb3.size⟩
          · rw [World.frozen?_setCell]; exact (hb3.frozen (p := ⟨w.heap.size + 1, o, none⟩) q1).trans (RF2.out o)
          · rw [World.frozen?_setCell]; exact (hb3.frozen (p := ⟨w.heap.size + 1 + 1, o, none⟩) q2).trans (BF2.out o)
        case measure => simp [intOf]; omega
      · have HNX := Lib.hid ((HNJ.out hbt).trans HS.out)
        clear hbt
        have hp1 : (p == -1) = false := by simp; omega
        have hl1 : (l == -1) = false := by simp; omega
        go_wp2_with fail
        go_roundw
        case rel => exact ⟨j + 1, by rw [HNX.out], by go_num, by omega, A0, A1, R0, R1, R2, C0, C1, by rw [HNX.out]; exact C2, RF2.out, BF2.out, KK2.out, HW2.out, hz2⟩
        case measure => simp [intOf]; omega
    · have hj3 : j = 3 := by omega
      subst hj3
      have rf0 := RF.out 0
      have rf1 := RF.out 1
      have rf2 := RF.out 2
      simp only [HE2.out] at b2 ⊢
      go_wp2_with fail
      have HS3 := set3_cells wr (w.heap.size + 1) (.int .i64 i) (.int .i64 k) (.string (bestN8 e)) r0 r1 r2
      refine bodyPost_ret (v := .tuple #[.agg #[.int .i64 i, .int .i64 k, .string (bestN8 e)], .int .i64 (bestP8 e)]) (by simp [results, Tryz.results62, go_sem, HS3]) rfl ⟨rfl, ?_⟩
      exact ((HW.out.setCell (p := ⟨w.heap.size + 1, 0, none⟩) (by show w.heap.size ≤ w.heap.size + 1; omega) _).setCell (p := ⟨w.heap.size + 1, 1, none⟩) (by show w.heap.size ≤ w.heap.size + 1; omega) _).setCell (p := ⟨w.heap.size + 1, 2, none⟩) (by show w.heap.size ≤ w.heap.size + 1; omega) _
end Go.Proofs.YtjpcpiffffobcaaGreatDoor
