/- BestChain of the model. -/
import Derived.Test.YthchhgjnelkmhaaDoorKsBestS
import Derived.Test.YthchhgjnelkmhaaDoorKsModel
import Derived.Deep.AppendLies
import Derived.Deep.RegionLaw
namespace Go.Proofs.YthchhgjnelkmhaaDoor
open Go.RowKit Go.Shelf Go.Lib Go.Sort

theorem step_append_ownS {P : Program} {ops : Array Oper} {o : Oper} {a : Act} {K : Act → World → Prop} {Q : Exit → Act → World → Prop} {E : Prop} (w : World) (hgd : o.guard = none) (s x : Operand) (t : TypeId)
    (ho : o.op = .call { callee := .builtin .append, args := #[s, x], argTypes := #[t, t] })
    (base : Nat) (e : TypeId) (i : TypeInfo) (z : Value) (size bytes : Nat) (ht : P.underlying t = some (.slice e)) (hi : P.info? e = some i) (hz : i.zero = some z)
    (hsize : i.size = size) (hby : i.bytes = bytes) (hzs : z.cells.size = size) (hsz : 0 < size)
    (v : Value) (n : Nat) (xs : List Value) (hs : a.eval s = v) (hown : w.ownsRow base e size v n xs)
    (ad : Addr) (m c : Nat) (news : List Value) (hx : a.eval x = .slice (some ad) m c) (hl : news.length = m * size) (hnews : ∀ j u, news[j]? = some u → w.cell? (ad.add j) = some u) (h1 : ∀ u ∈ news, u.oneCell' = true)
    (h63 : n + m ≤ maxLen) (hbytes : (n + m) * bytes ≤ 140737488355328) (hbase : base ≤ w.heap.size)
    (h : ∀ v' w', w'.ownsRow base e size v' (n + m) (xs ++ news) → w.grownBy w' v.ownBlock → K (a.put o.dst v') w') :
    if Region.wanted o (yielded ops a.tmps) = true then Oper.wp P o a w K Q else E := by
  have hw : Region.wanted o (yielded ops a.tmps) = true := by simp [Region.wanted, hgd]
  rw [if_pos hw]
  obtain ⟨v', w', hr, h2, h3, _⟩ := run_append_own_at (P := P) w base t o.type e i z size bytes ht hi hz hsize hby hzs hsz v n xs hown ad m c news hl hnews h1 h63 hbytes hbase
  unfold Oper.wp execOp
  simp only [ho, resolve, invoke, builtin, Sem.run_bind, Sem.run_pure, Result.andThen_ok, List.map_toArray, List.map_cons, List.map_nil, hs, hx, hr]
  exact h v' w' h2 h3
theorem cells_take {lt : Int → Int → Bool} {n i g k : Nat} {W : World} (hc : ∀ j, j < i → W.cell? ⟨g, j, none⟩ = some (.int .i64 (bestTo lt n i)[j]!)) (hk : k ≤ i) : ∀ j u, (((bestL lt n i).take k).map encN)[j]? = some u → W.cell? ((⟨g, 0, none⟩ : Addr).add j) = some u := by
  intro j u hu
  rw [List.getElem?_map] at hu
  by_cases hj : j < k
  · rw [List.getElem?_take_of_lt hj, bestL_get (by omega)] at hu
    have e : (⟨g, 0, none⟩ : Addr).add j = ⟨g, j, none⟩ := by unfold Addr.add; split <;> simp_all
    rw [e, hc j (by omega)]
    simpa using hu
  · rw [List.getElem?_eq_none (by rw [List.length_take, bestL_length]; omega)] at hu
    cases hu
theorem cells_drop {lt : Int → Int → Bool} {n i g k cp : Nat} {W : World} (hc : ∀ j, j < i → W.cell? ⟨g, j, none⟩ = some (.int .i64 (bestTo lt n i)[j]!)) (hi : i ≤ cp) : ∀ j u, (((bestL lt n i).drop k).map encN)[j]? = some u → W.cell? ((⟨g, if cp = k then 0 else k, none⟩ : Addr).add j) = some u := by
  intro j u hu
  rw [List.getElem?_map, List.getElem?_drop] at hu
  by_cases hj : k + j < i
  · rw [bestL_get hj] at hu
    rw [if_neg (by omega)]
    have e : (⟨g, k, none⟩ : Addr).add j = ⟨g, k + j, none⟩ := by unfold Addr.add; split <;> simp_all
    rw [e, hc _ hj]
    simpa using hu
  · rw [List.getElem?_eq_none (by rw [bestL_length]; omega)] at hu
    cases hu
theorem cells_one {W : World} {b : Nat} {v : Value} (hc : W.cell? ⟨b, 0, none⟩ = some v) : ∀ j u, [v][j]? = some u → W.cell? ((⟨b, 0, none⟩ : Addr).add j) = some u := by
  intro j u hu
  match j, hu with
  | 0, hu =>
    simp at hu
    subst hu
    have e : (⟨b, 0, none⟩ : Addr).add 0 = ⟨b, 0, none⟩ := by unfold Addr.add; split <;> simp_all
    rw [e]
    exact hc
theorem one_of_map (l : List Int) : ∀ u ∈ l.map encN, u.oneCell' = true := fun u hu => by
  obtain ⟨x, _, rfl⟩ := List.mem_map.1 hu
  rfl
theorem cmpI_lt (p q : Int) : decide (cmpI p q < 0) = decide (p < q) := by
  unfold cmpI
  rcases Int.lt_trichotomy p q with h | h | h
  · simp [h]
  · subst h; simp
  · have h2 : ¬ p < q := by omega
    simp [h, h2]
theorem posA_stop {lt : Int → Int → Bool} {A : Array Int} {i k : Nat} (hk : 0 < k) (h : lt A[i]! A[k - 1]! = false) : posA lt A i k = k := by
  obtain ⟨m, rfl⟩ : ∃ m, k = m + 1 := ⟨k - 1, by omega⟩
  rw [Nat.add_sub_cancel] at h
  rw [posA, if_neg (by rw [h]; exact Bool.false_ne_true)]
theorem posA_go {lt : Int → Int → Bool} {A : Array Int} {i k : Nat} (hk : 0 < k) (h : lt A[i]! A[k - 1]! = true) : posA lt A i k = posA lt A i (k - 1) := by
  obtain ⟨m, rfl⟩ : ∃ m, k = m + 1 := ⟨k - 1, by omega⟩
  rw [Nat.add_sub_cancel] at h ⊢
  rw [posA, if_pos h]
theorem bestL_cell {lt : Int → Int → Bool} {n i g cp base : Nat} {w : World} (h : OwnsN base (.slice (some ⟨g, 0, none⟩) i cp) (bestL lt n i) w) (j : Nat) (hj : j < i) : w.cell? ⟨g, j, none⟩ = some (.int .i64 (bestTo lt n i)[j]!) := by
  have hl : j < (bestL lt n i).length := by rw [bestL_length]; exact hj
  have h' : w.ownsRow base 3 1 (.slice (some ⟨g, 0, none⟩) i cp) i ((bestL lt n i).map encN) := by
    have h2 := h
    unfold OwnsN at h2
    rwa [bestL_length] at h2
  rw [World.ownsRow.cellAt h' j (by omega), List.getElem?_map, bestL_get hj]
  rfl

theorem best_next {lt : Int → Int → Bool} {n i k base b0 : Nat} {v : Value} {W : World} (hb : b0 ≤ base) (hi : i < n) (hk : k ≤ i) (hp : k = posA lt (bestTo lt n i) i i)
    (h : W.ownsRow base 3 1 v (0 + k + 1 + (i - k)) ([] ++ ((bestL lt n i).take k).map encN ++ [.int .i64 (i : Int)] ++ ((bestL lt n i).drop k).map encN)) :
    ∃ g cap, v = .slice (some ⟨g, 0, none⟩) (i + 1) cap ∧ i + 1 ≤ cap ∧ cap ≤ maxLen ∧ g < W.heap.size ∧ base ≤ g ∧ OwnsN b0 (.slice (some ⟨g, 0, none⟩) (i + 1) cap) (bestL lt n (i + 1)) W := by
  have hn : 0 + k + 1 + (i - k) = i + 1 := by omega
  have hl : [] ++ ((bestL lt n i).take k).map encN ++ [.int .i64 (i : Int)] ++ ((bestL lt n i).drop k).map encN = (bestL lt n (i + 1)).map encN := by
    rw [bestL_succ hi hp, List.map_append, List.map_append]
    rfl
  rw [hn, hl] at h
  rcases h.2 with ⟨_, h0⟩ | ⟨g, cap, cur, rfl, hg, hh, hc, hm, hs, ht⟩
  · omega
  · refine ⟨g, cap, rfl, hc, hm, (Array.getElem?_eq_some_iff.1 hh).1, hg, ?_⟩
    unfold OwnsN
    rw [bestL_length]
    exact ⟨h.1, .inr ⟨g, cap, cur, rfl, Nat.le_trans hb hg, hh, hc, hm, hs, ht⟩⟩

set_option maxRecDepth 100000 in
set_option maxHeartbeats 2000000 in
theorem l3Sorted_any (b off cap : Nat) (d : Array CaseD) (rest : Int) (w : World) (hR : RowC w b off d) (hok : SwOK d rest) :
    Calls Tryd.prog 53 #[.agg #[.slice (some ⟨b, off, none⟩) d.size cap, .int .i64 rest], .bool true] w fun x w' => ∃ v, x = .returned v ∧ OwnsN w.heap.size v (bestO d).toList w' ∧ RowKit.Below w.heap.size w w' := by
  have HR := Lib.hid hR
  have HOK := Lib.hid hok
  have h8 := hok.size
  clear hR hok
  obtain ⟨lt, hlt0⟩ : ∃ lt, lt = ltOf (worthX d) := ⟨_, rfl⟩
  have HLT := Lib.hid hlt0
  clear hlt0
  obtain ⟨i0, hi, hi0, hi1, hi2⟩ := info_parts infoN
  go_enter Tryd.func53, Tryd.ntmps53
  go_wp2_with fail
  obtain ⟨wa, hwa⟩ : ∃ wa, wa = (w.alloc (.cells #[.slice (some ⟨b, off, none⟩) d.size cap, .int .i64 rest] 30)).alloc (.cells #[] 3) := ⟨_, rfl⟩
  have c0 : wa.cell? ⟨w.heap.size, 0, none⟩ = some (.slice (some ⟨b, off, none⟩) d.size cap) := by rw [hwa]; simp [go_sem]
  have hz : wa.heap.size = w.heap.size + 2 := by rw [hwa]; simp
  have hba : RowKit.Below w.heap.size w wa := by rw [hwa]; exact ((Below.refl _ _).alloc (Nat.le_refl _) _).alloc (by simp) _
  have how : OwnsN w.heap.size (.slice (some ⟨w.heap.size + 1, 0, none⟩) 0 0) [] wa := by
    have h := World.ownsRow_made (base := w.heap.size) (e := 3) (size := 1) (w.alloc (.cells #[.slice (some ⟨b, off, none⟩) d.size cap, .int .i64 rest] 30)) #[] 0 (by simp) (Nat.zero_le _) rfl
    rw [hwa]
    simpa [OwnsN] using h
  rw [← hwa]
  have HA := Lib.hid hba
  have C0 := Lib.hid c0
  have HO0 := Lib.hid how
  have hn8 : (d.size : Int) ≤ 8 := by omega
  clear hwa hba c0 how
  go_loopw [16, 5] (fun ci vo wr => ∃ (i g cp : Nat), ci = .int .i64 i ∧ i ≤ d.size ∧ vo = .slice (some ⟨g, 0, none⟩) i cp ∧ i ≤ cp ∧ cp ≤ maxLen ∧ g < wr.heap.size ∧ Hid (w.heap.size < g) ∧ Hid (OwnsN w.heap.size (.slice (some ⟨g, 0, none⟩) i cp) (bestL lt d.size i) wr) ∧ Hid (RowKit.Below (w.heap.size + 1) wa wr) ∧ wa.heap.size ≤ wr.heap.size) (fun ci _ _ => d.size - (Lib.intOf ci).toNat)
  case atStart => exact ⟨0, w.heap.size + 1, 0, rfl, Nat.zero_le _, rfl, Nat.le_refl _, Nat.zero_le _, by omega, Nat.lt_succ_self _, HO0.out, Below.refl _ _, Nat.le_refl _⟩
  case round =>
    obtain ⟨i, g, cp, rfl, hin, rfl, hicp, hcpm, hgw, HGW, HOW, HW, hws⟩ := hrel
    obtain ⟨wo, rfl⟩ : ∃ wo, wo = wr := ⟨_, rfl⟩
    by_cases hlt : i < d.size
    · have HWW := Lib.hid (HA.out.trans (HW.out.mono (by omega)))
      have hx := HR.out.below HWW.out
      have x0 := hx.low i hlt
      have x1 := hx.high i hlt
      have x2 := hx.target i hlt
      have x3 := hx.weight i hlt
      have HXR := Lib.hid hx
      have c0 := (HW.out.cell (p := ⟨w.heap.size, 0, none⟩) (Nat.lt_succ_self _)).trans C0.out
      obtain ⟨x, hxe⟩ : ∃ x, x = d[i]! := ⟨_, rfl⟩
      rw [← hxe] at x0 x1 x2 x3
      have HX := Lib.hid hxe
      clear hx hxe
      go_wp2_with fail
      obtain ⟨wi, hwi⟩ : ∃ wi, wi = wo.alloc (.cells #[.int .i64 x.low, .int .i64 x.high, .string x.target, .int .i64 x.weight] 59) := ⟨_, rfl⟩
      have e0 : wi.cell? ⟨wo.heap.size, 0, none⟩ = some (.int .i64 x.low) := by rw [hwi]; simp [go_sem]
      have e1 : wi.cell? ⟨wo.heap.size, 1, none⟩ = some (.int .i64 x.high) := by rw [hwi]; simp [go_sem]
      have e2 : wi.cell? ⟨wo.heap.size, 2, none⟩ = some (.string x.target) := by rw [hwi]; simp [go_sem]
      have e3 : wi.cell? ⟨wo.heap.size, 3, none⟩ = some (.int .i64 x.weight) := by rw [hwi]; simp [go_sem]
      have hwz : wi.heap.size = wo.heap.size + 1 := by rw [hwi]; simp
      have hbi : RowKit.Below wo.heap.size wo wi := by rw [hwi]; exact (Below.refl _ _).alloc (Nat.le_refl _) _
      rw [← hwi]
      have HBI := Lib.hid hbi
      have HE := Lib.hid (⟨e0, e1, e2, e3⟩ : _ ∧ _ ∧ _ ∧ _)
      have C0R := Lib.hid c0
      clear hwi e0 e1 e2 e3 hbi c0 x0 x1 x2 x3
      go_loopw [8] (fun kv wl => ∃ k : Nat, kv = .int .i64 k ∧ k ≤ i ∧ Hid (posA lt (bestTo lt d.size i) i k = posA lt (bestTo lt d.size i) i i) ∧ Hid (RowKit.Below wi.heap.size wi wl)) (fun kv _ => (Lib.intOf kv).toNat)
      case atStart => exact ⟨i, rfl, Nat.le_refl _, rfl, Below.refl _ _⟩
      case round =>
        obtain ⟨k, rfl, hki, HPK, HBL⟩ := hrel
        rcases Nat.eq_zero_or_pos k with hk00 | hk0
        · have hd0 : decide (0 < k) = false := by simp; omega
          have HQ := Lib.hid (show posA lt (bestTo lt d.size i) i k = k by rw [hk00]; rfl)
          have HBP := Lib.hid HBL.out
          go_wp2
          obtain ⟨we, hwe⟩ : ∃ we, we = wr := ⟨_, rfl⟩
          rw [← hwe] at HBP ⊢
          clear hwe
          clear hk00
          have hz0 : (0 : Int) ≤ (k : Int) := by omega
          have hz1 : (k : Int) ≤ (cp : Int) := by omega
          have hz2 : (k : Int) ≤ (i : Int) := by omega
          have hz3 : (i : Int) ≤ (cp : Int) := by omega
          have hoe : wo.heap.size ≤ we.heap.size := Nat.le_trans (by omega) HBP.out.size
          have CG := Lib.hid (fun W (hW : RowKit.Below we.heap.size we W) j (hj : j < i) => ((HBI.out.trans ((HBP.out.mono (by omega)).trans (hW.mono hoe))).cell (p := ⟨g, j, none⟩) hgw).trans (bestL_cell HOW.out j hj))
          have HLT2 := Lib.hid (show ((bestL lt d.size i).take k).length = k by rw [List.length_take, bestL_length]; omega)
          have HLT3 := Lib.hid (show ((bestL lt d.size i).drop k).length = i - k by rw [List.length_drop, bestL_length])
          have hmx : maxLen = 9223372036854775807 := rfl
          go_region_law (first
            | (refine step_append_ownS _ (by rfl) (.tmp 61) (.tmp 64) 25 (by rfl) we.heap.size 3 i0 (.int .i64 0) 1 8 Tryd.underlying25 hi hi0 hi1 hi2 rfl (by decide) (.slice (some ⟨we.heap.size + 1, 0, none⟩) 0 0) 0 [] (by rfl) (by have h := World.ownsRow_made (base := we.heap.size) (e := 3) (size := 1) (we.alloc (.cells #[.int .i64 (i : Int)] 3)) #[] 0 (by simp) (Nat.zero_le _) rfl; rw [World.size_alloc] at h; exact h) ⟨g, 0, none⟩ k cp (((bestL lt d.size i).take k).map encN) (by first | rfl | (go_simp; done)) (by rw [List.length_map, HLT2.out, Nat.mul_one]) (cells_take (CG.out _ (by repeat (first | exact Below.refl _ _ | refine Below.drew ?_ | refine Below.alloc ?_ (by first | omega | (simp; done) | (simp; omega)) _))) hki) (one_of_map _) (by omega) (by omega) (by first | omega | (simp; done) | (simp; omega)) ?_; intro v1 w1 hown1 hgrow1; have HO1 := Lib.hid hown1; have HB1 := Lib.hid (cells_one ((hgrow1.cell_far ⟨we.heap.size, 0, none⟩ (by first | omega | (simp; done) | (simp; omega)) (by simp [Value.ownBlock])).trans (by simp [go_sem]) : w1.cell? ⟨we.heap.size, 0, none⟩ = some (.int .i64 (i : Int)))); have HW1 := Lib.hid (((by repeat (first | exact Below.refl _ _ | refine Below.drew ?_ | refine Below.alloc ?_ (by first | omega | (simp; done) | (simp; omega)) _)) : RowKit.Below we.heap.size we _).grown hgrow1 (by first | omega | (simp; done) | (simp; omega)) (fun q hq => by simp [Value.ownBlock] at hq; omega)); have hs1 := HW1.out.size; clear hown1 hgrow1)
            | (refine step_append_ownS _ (by rfl) (.tmp 61) (.tmp 64) 25 (by rfl) we.heap.size 3 i0 (.int .i64 0) 1 8 Tryd.underlying25 hi hi0 hi1 hi2 rfl (by decide) (.slice (some ⟨we.heap.size, 0, none⟩) 0 0) 0 [] (by rfl) (by exact (World.ownsRow_made we #[] 0 (Nat.le_refl _) (Nat.zero_le _) (by simp)).alloc _) ⟨g, 0, none⟩ k cp (((bestL lt d.size i).take k).map encN) (by first | rfl | (go_simp; done)) (by rw [List.length_map, HLT2.out, Nat.mul_one]) (cells_take (CG.out _ (by repeat (first | exact Below.refl _ _ | refine Below.drew ?_ | refine Below.alloc ?_ (by first | omega | (simp; done) | (simp; omega)) _))) hki) (one_of_map _) (by omega) (by omega) (by first | omega | (simp; done) | (simp; omega)) ?_; intro v1 w1 hown1 hgrow1; have HO1 := Lib.hid hown1; have HB1 := Lib.hid (cells_one ((hgrow1.cell_far ⟨we.heap.size + 1, 0, none⟩ (by first | omega | (simp; done) | (simp; omega)) (by simp [Value.ownBlock])).trans (by simp [go_sem]) : w1.cell? ⟨we.heap.size + 1, 0, none⟩ = some (.int .i64 (i : Int)))); have HW1 := Lib.hid (((by repeat (first | exact Below.refl _ _ | refine Below.drew ?_ | refine Below.alloc ?_ (by first | omega | (simp; done) | (simp; omega)) _)) : RowKit.Below we.heap.size we _).grown hgrow1 (by first | omega | (simp; done) | (simp; omega)) (fun q hq => by simp [Value.ownBlock] at hq; omega)); have hs1 := HW1.out.size; clear hown1 hgrow1)
            | (refine step_append_ownS _ (by rfl) (.tmp 61) (.tmp 64) 25 (by rfl) we.heap.size 3 i0 (.int .i64 0) 1 8 Tryd.underlying25 hi hi0 hi1 hi2 rfl (by decide) (.slice (some ⟨we.heap.size, 0, none⟩) 0 0) 0 [] (by rfl) (by exact World.ownsRow_made we #[] 0 (Nat.le_refl _) (Nat.zero_le _) (by simp)) ⟨g, 0, none⟩ k cp (((bestL lt d.size i).take k).map encN) (by first | rfl | (go_simp; done)) (by rw [List.length_map, HLT2.out, Nat.mul_one]) (cells_take (CG.out _ (by repeat (first | exact Below.refl _ _ | refine Below.drew ?_ | refine Below.alloc ?_ (by first | omega | (simp; done) | (simp; omega)) _))) hki) (one_of_map _) (by omega) (by omega) (by first | omega | (simp; done) | (simp; omega)) ?_; intro v1 w1 hown1 hgrow1; have HO1 := Lib.hid hown1; have HW1 := Lib.hid (((by repeat (first | exact Below.refl _ _ | refine Below.drew ?_ | refine Below.alloc ?_ (by first | omega | (simp; done) | (simp; omega)) _)) : RowKit.Below we.heap.size we _).grown hgrow1 (by first | omega | (simp; done) | (simp; omega)) (fun q hq => by simp [Value.ownBlock] at hq; omega)); have hs1 := HW1.out.size; clear hown1 hgrow1)
            | (refine step_append_ownS _ (by rfl) (.tmp 65) (.tmp 67) 25 (by rfl) we.heap.size 3 i0 (.int .i64 0) 1 8 Tryd.underlying25 hi hi0 hi1 hi2 rfl (by decide) v1 (0 + k) ([] ++ (((bestL lt d.size i).take k).map encN)) (by rfl) HO1.out ⟨we.heap.size, 0, none⟩ 1 1 [.int .i64 (i : Int)] (by first | rfl | (go_simp; done)) rfl HB1.out (one_cell1 _) (by omega) (by omega) (by first | omega | (simp; done) | (simp; omega)) ?_; intro v2 w2 hown2 hgrow2; have HO2 := Lib.hid hown2; have HW2 := Lib.hid ((Below.trans HW1.out ((by repeat (first | exact Below.refl _ _ | refine Below.drew ?_ | refine Below.alloc ?_ (by first | omega | (simp; done) | (simp; omega)) _)) : RowKit.Below we.heap.size w1 _)).grown hgrow2 (by first | omega | (simp; done) | (simp; omega)) (fun q hq => (HO1.out.lt q hq).1)); have hs2 := HW2.out.size; clear hown2 hgrow2)
            | (refine step_append_ownS _ (by rfl) (.tmp 65) (.tmp 67) 25 (by rfl) we.heap.size 3 i0 (.int .i64 0) 1 8 Tryd.underlying25 hi hi0 hi1 hi2 rfl (by decide) v1 (0 + k) ([] ++ (((bestL lt d.size i).take k).map encN)) (by rfl) HO1.out ⟨we.heap.size + 1, 0, none⟩ 1 1 [.int .i64 (i : Int)] (by first | rfl | (go_simp; done)) rfl HB1.out (one_cell1 _) (by omega) (by omega) (by first | omega | (simp; done) | (simp; omega)) ?_; intro v2 w2 hown2 hgrow2; have HO2 := Lib.hid hown2; have HW2 := Lib.hid ((Below.trans HW1.out ((by repeat (first | exact Below.refl _ _ | refine Below.drew ?_ | refine Below.alloc ?_ (by first | omega | (simp; done) | (simp; omega)) _)) : RowKit.Below we.heap.size w1 _)).grown hgrow2 (by first | omega | (simp; done) | (simp; omega)) (fun q hq => (HO1.out.lt q hq).1)); have hs2 := HW2.out.size; clear hown2 hgrow2)
            | (refine step_append_ownS _ (by rfl) (.tmp 65) (.tmp 67) 25 (by rfl) we.heap.size 3 i0 (.int .i64 0) 1 8 Tryd.underlying25 hi hi0 hi1 hi2 rfl (by decide) v1 (0 + k) ([] ++ (((bestL lt d.size i).take k).map encN)) (by rfl) (by exact HO1.out.alloc _) ⟨w1.heap.size, 0, none⟩ 1 1 [.int .i64 (i : Int)] (by first | rfl | (go_simp; done)) rfl (cells_one (by simp [go_sem])) (one_cell1 _) (by omega) (by omega) (by first | omega | (simp; done) | (simp; omega)) ?_; intro v2 w2 hown2 hgrow2; have HO2 := Lib.hid hown2; have HW2 := Lib.hid ((Below.trans HW1.out ((by repeat (first | exact Below.refl _ _ | refine Below.drew ?_ | refine Below.alloc ?_ (by first | omega | (simp; done) | (simp; omega)) _)) : RowKit.Below we.heap.size w1 _)).grown hgrow2 (by first | omega | (simp; done) | (simp; omega)) (fun q hq => (HO1.out.lt q hq).1)); have hs2 := HW2.out.size; clear hown2 hgrow2)
            | (refine step_append_ownS _ (by rfl) (.tmp 68) (.tmp 71) 25 (by rfl) we.heap.size 3 i0 (.int .i64 0) 1 8 Tryd.underlying25 hi hi0 hi1 hi2 rfl (by decide) v2 (0 + k + 1) ([] ++ (((bestL lt d.size i).take k).map encN) ++ [.int .i64 (i : Int)]) (by rfl) HO2.out ⟨g, if cp = k then 0 else k, none⟩ (i - k) (cp - k) (((bestL lt d.size i).drop k).map encN) (by go_simp; by_cases hck : cp = k <;> simp [hck]) (by rw [List.length_map, HLT3.out, Nat.mul_one]) (cells_drop (CG.out _ HW2.out) hicp) (one_of_map _) (by omega) (by omega) (by first | omega | (simp; done) | (simp; omega)) ?_; intro v3 w3 hown3 hgrow3; have HO3 := Lib.hid hown3; have HW3 := Lib.hid (HW2.out.grown hgrow3 (by first | omega | (simp; done) | (simp; omega)) (fun q hq => (HO2.out.lt q hq).1)); clear hown3 hgrow3))
          all_goals
            obtain ⟨g', cp', rfl, hq1, hq2, hq3, hq4, hq5⟩ := best_next (b0 := w.heap.size) (by omega) hlt hki (HQ.out.symm.trans HPK.out) HO3.out
            have HQ5 := Lib.hid hq5
            have hg4 : w.heap.size < g' := by omega
            have HQ4 := Lib.hid hg4
            have HWX := Lib.hid (HW.out.trans ((HBI.out.trans ((HBP.out.mono (by omega)).trans (HW3.out.mono hoe))).mono (by omega)))
            have hz3 := HW3.out.size
            clear hq5 hg4
            go_wp2
            go_roundw
            case rel => exact ⟨i + 1, g', cp', by go_num, by omega, rfl, hq1, hq2, hq3, HQ4.out, HQ5.out, HWX.out, by omega⟩
            case measure => simp [Lib.intOf]; omega
        · have HRL := Lib.hid (HBI.out.trans (HBL.out.mono (by omega)))
          have hlsz := HBL.out.size
          have hrng := bestTo_range lt d.size i hin (k - 1) (by omega)
          have o0 := (HRL.out.cell (p := ⟨g, k - 1, none⟩) hgw).trans (bestL_cell HOW.out (k - 1) (by omega))
          have HPG := Lib.hid (fun h => posA_go (lt := lt) (A := bestTo lt d.size i) (i := i) hk0 h)
          have HPS := Lib.hid (fun h => posA_stop (lt := lt) (A := bestTo lt d.size i) (i := i) hk0 h)
          rw [bestTo_rest lt d.size i i (Nat.le_refl _) hlt] at HPG HPS
          obtain ⟨yz, hyz⟩ : ∃ y, y = (bestTo lt d.size i)[k - 1]! := ⟨_, rfl⟩
          rw [← hyz] at o0 hrng HPG HPS
          clear hyz
          obtain ⟨t, rfl⟩ : ∃ t : Nat, yz = t := ⟨yz.toNat, by omega⟩
          have htn : t < d.size := by omega
          have hxl := HXR.out.below HRL.out
          have y0 := hxl.low t htn
          have y1 := hxl.high t htn
          have y2 := hxl.target t htn
          have y3 := hxl.weight t htn
          have c0 := (HRL.out.cell (p := ⟨w.heap.size, 0, none⟩) (by omega : w.heap.size < wo.heap.size)).trans C0R.out
          have hgl : g < wr.heap.size := by omega
          have hbl : b < wr.heap.size := hxl.old
          have hsl : w.heap.size < wr.heap.size := by omega
          have htx := HOK.out.case t htn
          obtain ⟨y, hye⟩ : ∃ y, y = d[t]! := ⟨_, rfl⟩
          rw [← hye] at y0 y1 y2 y3 htx
          have HY := Lib.hid hye
          have HTX := Lib.hid htx
          clear hxl hye htx
          have hd0 : decide (0 < k) = true := by simp; omega
          have hs2 : IntKind.i64.wrap ((k : Int) - 1) = (k : Int) - 1 := IntWalk.i64_in _ (by omega)
          have hs3 : (0 : Int) ≤ (k : Int) - 1 := by omega
          have hs4 : ((k : Int) - 1).toNat = k - 1 := by omega
          have hs5 : (k : Int) - 1 < (i : Int) := by omega
          have hs6 : (t : Int) < (d.size : Int) := by omega
          go_wp2_with fail
          go_region
          obtain ⟨wd, hwd⟩ : ∃ wd, wd = (wr.alloc (.cells #[.int .i64 y.low, .int .i64 y.high, .string y.target, .int .i64 y.weight] 59)).drew := ⟨_, rfl⟩
          have f0 : wd.cell? ⟨wr.heap.size, 0, none⟩ = some (.int .i64 y.low) := by rw [hwd]; simp [go_sem]
          have f1 : wd.cell? ⟨wr.heap.size, 1, none⟩ = some (.int .i64 y.high) := by rw [hwd]; simp [go_sem]
          have f2 : wd.cell? ⟨wr.heap.size, 2, none⟩ = some (.string y.target) := by rw [hwd]; simp [go_sem]
          have f3 : wd.cell? ⟨wr.heap.size, 3, none⟩ = some (.int .i64 y.weight) := by rw [hwd]; simp [go_sem]
          have hdz : wr.heap.size < wd.heap.size := by rw [hwd]; simp
          have hbd : RowKit.Below wr.heap.size wr wd := by rw [hwd]; exact ((Below.refl _ _).alloc (Nat.le_refl _) _).drew
          rw [← hwd]
          have HBD := Lib.hid (HBL.out.trans (hbd.mono hlsz))
          have e0 := (HBD.out.cell (p := ⟨wo.heap.size, 0, none⟩) (by omega : wo.heap.size < wi.heap.size)).trans HE.out.1
          have e1 := (HBD.out.cell (p := ⟨wo.heap.size, 1, none⟩) (by omega : wo.heap.size < wi.heap.size)).trans HE.out.2.1
          have e2 := (HBD.out.cell (p := ⟨wo.heap.size, 2, none⟩) (by omega : wo.heap.size < wi.heap.size)).trans HE.out.2.2.1
          have e3 := (HBD.out.cell (p := ⟨wo.heap.size, 3, none⟩) (by omega : wo.heap.size < wi.heap.size)).trans HE.out.2.2.2
          clear hwd hbd y0 y1 y2 y3 o0 c0
          have q0 := fun p : BW wd => p.cell (a := ⟨wr.heap.size, 0, none⟩) hdz f0
          have q1 := fun p : BW wd => p.cell (a := ⟨wr.heap.size, 1, none⟩) hdz f1
          have q2 := fun p : BW wd => p.cell (a := ⟨wr.heap.size, 2, none⟩) hdz f2
          have q3 := fun p : BW wd => p.cell (a := ⟨wr.heap.size, 3, none⟩) hdz f3
          have p0 := fun p : BW wd => p.cell (a := ⟨wo.heap.size, 0, none⟩) (by omega : wo.heap.size < wd.heap.size) e0
          have p1 := fun p : BW wd => p.cell (a := ⟨wo.heap.size, 1, none⟩) (by omega : wo.heap.size < wd.heap.size) e1
          have p2 := fun p : BW wd => p.cell (a := ⟨wo.heap.size, 2, none⟩) (by omega : wo.heap.size < wd.heap.size) e2
          have p3 := fun p : BW wd => p.cell (a := ⟨wo.heap.size, 3, none⟩) (by omega : wo.heap.size < wd.heap.size) e3
          have hgx := fun p : BW wd => l3Cost_any x p.W
          have hgy := fun p : BW wd => l3Cost_any y p.W
          have bx := tcost_bounds x
          have by' := tcost_bounds y
          have hwx := caseB_weight (HX.out ▸ HOK.out.case i hlt : caseB x = true)
          have hwy := caseB_weight HTX.out
          have hm1 := mul_le2 hwx.1 hwx.2 by'.1 by'.2
          have hm2 := mul_le2 hwy.1 hwy.2 bx.1 bx.2
          have HLQ := Lib.hid (show lt (i : Int) (t : Int) = decide (y.weight * tcost x < x.weight * tcost y) by
            rw [HLT.out]
            show decide (worth d[(t : Int).toNat]! d[(i : Int).toNat]! < 0) = _
            rw [Int.toNat_natCast, Int.toNat_natCast, ← HX.out, ← HY.out]
            exact cmpI_lt _ _)
          obtain ⟨ta, hta⟩ : ∃ t, t = tcost x := ⟨_, rfl⟩
          obtain ⟨tb, htb⟩ : ∃ t, t = tcost y := ⟨_, rfl⟩
          rw [← hta] at hgx HLQ hm2
          rw [← htb] at hgy HLQ hm1
          obtain ⟨m1, hm1'⟩ : ∃ m, m = x.weight * tb := ⟨_, rfl⟩
          obtain ⟨m2, hm2'⟩ : ∃ m, m = y.weight * ta := ⟨_, rfl⟩
          rw [← hm1'] at hm1 HLQ
          rw [← hm2'] at hm2 HLQ
          have hw1 : IntKind.i64.wrap (x.weight * tb) = m1 := by rw [← hm1']; exact IntWalk.i64_in _ (by omega)
          have hw2 : IntKind.i64.wrap (y.weight * ta) = m2 := by rw [← hm2']; exact IntWalk.i64_in _ (by omega)
          unfold aggC at hgx hgy
          have GX := Lib.hid hgx
          have GY := Lib.hid hgy
          clear hgx hgy bx by' hwx hwy hm1 hm2 hta htb hm1' hm2' f0 f1 f2 f3 e0 e1 e2 e3
          go_wp2_with fail
          refine wp_region_bw (by kernel_rfl) (by kernel_rfl) ?_
          repeat (go_big_quiet_step (first
            | (with_reducible refine bw_of (GX.out _))
            | (with_reducible refine bw_of (GY.out _))))
          refine wpQuiet_nil ?_
          rintro _ ⟨pp, rfl⟩
          have HBP := Lib.hid (HBD.out.trans (pp.h.mono HBD.out.size))
          clear q0 q1 q2 q3 p0 p1 p2 p3
          by_cases hq : m2 < m1
          · have hqd : decide (m1 ≤ m2) = false := by simp; omega
            have HQ := Lib.hid (HPG.out (by rw [HLQ.out]; simp; omega))
            clear hq
            go_wp2
            go_roundw
            case rel => exact ⟨k - 1, by go_num, by omega, HQ.out.symm.trans HPK.out, HBP.out⟩
            case measure => simp [Lib.intOf]; omega
          · have hqd : decide (m1 ≤ m2) = true := by simp; omega
            have HQ := Lib.hid (HPS.out (by rw [HLQ.out]; simp; omega))
            clear hq
            go_wp2
            obtain ⟨we, hwe⟩ : ∃ we, we = pp.W := ⟨_, rfl⟩
            rw [← hwe] at HBP ⊢
            clear hwe
            clear hk0
            have hz0 : (0 : Int) ≤ (k : Int) := by omega
            have hz1 : (k : Int) ≤ (cp : Int) := by omega
            have hz2 : (k : Int) ≤ (i : Int) := by omega
            have hz3 : (i : Int) ≤ (cp : Int) := by omega
            have hoe : wo.heap.size ≤ we.heap.size := Nat.le_trans (by omega) HBP.out.size
            have CG := Lib.hid (fun W (hW : RowKit.Below we.heap.size we W) j (hj : j < i) => ((HBI.out.trans ((HBP.out.mono (by omega)).trans (hW.mono hoe))).cell (p := ⟨g, j, none⟩) hgw).trans (bestL_cell HOW.out j hj))
            have HLT2 := Lib.hid (show ((bestL lt d.size i).take k).length = k by rw [List.length_take, bestL_length]; omega)
            have HLT3 := Lib.hid (show ((bestL lt d.size i).drop k).length = i - k by rw [List.length_drop, bestL_length])
            have hmx : maxLen = 9223372036854775807 := rfl
            go_region_law (first
              | (refine step_append_ownS _ (by rfl) (.tmp 61) (.tmp 64) 25 (by rfl) we.heap.size 3 i0 (.int .i64 0) 1 8 Tryd.underlying25 hi hi0 hi1 hi2 rfl (by decide) (.slice (some ⟨we.heap.size + 1, 0, none⟩) 0 0) 0 [] (by rfl) (by have h := World.ownsRow_made (base := we.heap.size) (e := 3) (size := 1) (we.alloc (.cells #[.int .i64 (i : Int)] 3)) #[] 0 (by simp) (Nat.zero_le _) rfl; rw [World.size_alloc] at h; exact h) ⟨g, 0, none⟩ k cp (((bestL lt d.size i).take k).map encN) (by first | rfl | (go_simp; done)) (by rw [List.length_map, HLT2.out, Nat.mul_one]) (cells_take (CG.out _ (by repeat (first | exact Below.refl _ _ | refine Below.drew ?_ | refine Below.alloc ?_ (by first | omega | (simp; done) | (simp; omega)) _))) hki) (one_of_map _) (by omega) (by omega) (by first | omega | (simp; done) | (simp; omega)) ?_; intro v1 w1 hown1 hgrow1; have HO1 := Lib.hid hown1; have HB1 := Lib.hid (cells_one ((hgrow1.cell_far ⟨we.heap.size, 0, none⟩ (by first | omega | (simp; done) | (simp; omega)) (by simp [Value.ownBlock])).trans (by simp [go_sem]) : w1.cell? ⟨we.heap.size, 0, none⟩ = some (.int .i64 (i : Int)))); have HW1 := Lib.hid (((by repeat (first | exact Below.refl _ _ | refine Below.drew ?_ | refine Below.alloc ?_ (by first | omega | (simp; done) | (simp; omega)) _)) : RowKit.Below we.heap.size we _).grown hgrow1 (by first | omega | (simp; done) | (simp; omega)) (fun q hq => by simp [Value.ownBlock] at hq; omega)); have hs1 := HW1.out.size; clear hown1 hgrow1)
              | (refine step_append_ownS _ (by rfl) (.tmp 61) (.tmp 64) 25 (by rfl) we.heap.size 3 i0 (.int .i64 0) 1 8 Tryd.underlying25 hi hi0 hi1 hi2 rfl (by decide) (.slice (some ⟨we.heap.size, 0, none⟩) 0 0) 0 [] (by rfl) (by exact (World.ownsRow_made we #[] 0 (Nat.le_refl _) (Nat.zero_le _) (by simp)).alloc _) ⟨g, 0, none⟩ k cp (((bestL lt d.size i).take k).map encN) (by first | rfl | (go_simp; done)) (by rw [List.length_map, HLT2.out, Nat.mul_one]) (cells_take (CG.out _ (by repeat (first | exact Below.refl _ _ | refine Below.drew ?_ | refine Below.alloc ?_ (by first | omega | (simp; done) | (simp; omega)) _))) hki) (one_of_map _) (by omega) (by omega) (by first | omega | (simp; done) | (simp; omega)) ?_; intro v1 w1 hown1 hgrow1; have HO1 := Lib.hid hown1; have HB1 := Lib.hid (cells_one ((hgrow1.cell_far ⟨we.heap.size + 1, 0, none⟩ (by first | omega | (simp; done) | (simp; omega)) (by simp [Value.ownBlock])).trans (by simp [go_sem]) : w1.cell? ⟨we.heap.size + 1, 0, none⟩ = some (.int .i64 (i : Int)))); have HW1 := Lib.hid (((by repeat (first | exact Below.refl _ _ | refine Below.drew ?_ | refine Below.alloc ?_ (by first | omega | (simp; done) | (simp; omega)) _)) : RowKit.Below we.heap.size we _).grown hgrow1 (by first | omega | (simp; done) | (simp; omega)) (fun q hq => by simp [Value.ownBlock] at hq; omega)); have hs1 := HW1.out.size; clear hown1 hgrow1)
              | (refine step_append_ownS _ (by rfl) (.tmp 61) (.tmp 64) 25 (by rfl) we.heap.size 3 i0 (.int .i64 0) 1 8 Tryd.underlying25 hi hi0 hi1 hi2 rfl (by decide) (.slice (some ⟨we.heap.size, 0, none⟩) 0 0) 0 [] (by rfl) (by exact World.ownsRow_made we #[] 0 (Nat.le_refl _) (Nat.zero_le _) (by simp)) ⟨g, 0, none⟩ k cp (((bestL lt d.size i).take k).map encN) (by first | rfl | (go_simp; done)) (by rw [List.length_map, HLT2.out, Nat.mul_one]) (cells_take (CG.out _ (by repeat (first | exact Below.refl _ _ | refine Below.drew ?_ | refine Below.alloc ?_ (by first | omega | (simp; done) | (simp; omega)) _))) hki) (one_of_map _) (by omega) (by omega) (by first | omega | (simp; done) | (simp; omega)) ?_; intro v1 w1 hown1 hgrow1; have HO1 := Lib.hid hown1; have HW1 := Lib.hid (((by repeat (first | exact Below.refl _ _ | refine Below.drew ?_ | refine Below.alloc ?_ (by first | omega | (simp; done) | (simp; omega)) _)) : RowKit.Below we.heap.size we _).grown hgrow1 (by first | omega | (simp; done) | (simp; omega)) (fun q hq => by simp [Value.ownBlock] at hq; omega)); have hs1 := HW1.out.size; clear hown1 hgrow1)
              | (refine step_append_ownS _ (by rfl) (.tmp 65) (.tmp 67) 25 (by rfl) we.heap.size 3 i0 (.int .i64 0) 1 8 Tryd.underlying25 hi hi0 hi1 hi2 rfl (by decide) v1 (0 + k) ([] ++ (((bestL lt d.size i).take k).map encN)) (by rfl) HO1.out ⟨we.heap.size, 0, none⟩ 1 1 [.int .i64 (i : Int)] (by first | rfl | (go_simp; done)) rfl HB1.out (one_cell1 _) (by omega) (by omega) (by first | omega | (simp; done) | (simp; omega)) ?_; intro v2 w2 hown2 hgrow2; have HO2 := Lib.hid hown2; have HW2 := Lib.hid ((Below.trans HW1.out ((by repeat (first | exact Below.refl _ _ | refine Below.drew ?_ | refine Below.alloc ?_ (by first | omega | (simp; done) | (simp; omega)) _)) : RowKit.Below we.heap.size w1 _)).grown hgrow2 (by first | omega | (simp; done) | (simp; omega)) (fun q hq => (HO1.out.lt q hq).1)); have hs2 := HW2.out.size; clear hown2 hgrow2)
              | (refine step_append_ownS _ (by rfl) (.tmp 65) (.tmp 67) 25 (by rfl) we.heap.size 3 i0 (.int .i64 0) 1 8 Tryd.underlying25 hi hi0 hi1 hi2 rfl (by decide) v1 (0 + k) ([] ++ (((bestL lt d.size i).take k).map encN)) (by rfl) HO1.out ⟨we.heap.size + 1, 0, none⟩ 1 1 [.int .i64 (i : Int)] (by first | rfl | (go_simp; done)) rfl HB1.out (one_cell1 _) (by omega) (by omega) (by first | omega | (simp; done) | (simp; omega)) ?_; intro v2 w2 hown2 hgrow2; have HO2 := Lib.hid hown2; have HW2 := Lib.hid ((Below.trans HW1.out ((by repeat (first | exact Below.refl _ _ | refine Below.drew ?_ | refine Below.alloc ?_ (by first | omega | (simp; done) | (simp; omega)) _)) : RowKit.Below we.heap.size w1 _)).grown hgrow2 (by first | omega | (simp; done) | (simp; omega)) (fun q hq => (HO1.out.lt q hq).1)); have hs2 := HW2.out.size; clear hown2 hgrow2)
              | (refine step_append_ownS _ (by rfl) (.tmp 65) (.tmp 67) 25 (by rfl) we.heap.size 3 i0 (.int .i64 0) 1 8 Tryd.underlying25 hi hi0 hi1 hi2 rfl (by decide) v1 (0 + k) ([] ++ (((bestL lt d.size i).take k).map encN)) (by rfl) (by exact HO1.out.alloc _) ⟨w1.heap.size, 0, none⟩ 1 1 [.int .i64 (i : Int)] (by first | rfl | (go_simp; done)) rfl (cells_one (by simp [go_sem])) (one_cell1 _) (by omega) (by omega) (by first | omega | (simp; done) | (simp; omega)) ?_; intro v2 w2 hown2 hgrow2; have HO2 := Lib.hid hown2; have HW2 := Lib.hid ((Below.trans HW1.out ((by repeat (first | exact Below.refl _ _ | refine Below.drew ?_ | refine Below.alloc ?_ (by first | omega | (simp; done) | (simp; omega)) _)) : RowKit.Below we.heap.size w1 _)).grown hgrow2 (by first | omega | (simp; done) | (simp; omega)) (fun q hq => (HO1.out.lt q hq).1)); have hs2 := HW2.out.size; clear hown2 hgrow2)
              | (refine step_append_ownS _ (by rfl) (.tmp 68) (.tmp 71) 25 (by rfl) we.heap.size 3 i0 (.int .i64 0) 1 8 Tryd.underlying25 hi hi0 hi1 hi2 rfl (by decide) v2 (0 + k + 1) ([] ++ (((bestL lt d.size i).take k).map encN) ++ [.int .i64 (i : Int)]) (by rfl) HO2.out ⟨g, if cp = k then 0 else k, none⟩ (i - k) (cp - k) (((bestL lt d.size i).drop k).map encN) (by go_simp; by_cases hck : cp = k <;> simp [hck]) (by rw [List.length_map, HLT3.out, Nat.mul_one]) (cells_drop (CG.out _ HW2.out) hicp) (one_of_map _) (by omega) (by omega) (by first | omega | (simp; done) | (simp; omega)) ?_; intro v3 w3 hown3 hgrow3; have HO3 := Lib.hid hown3; have HW3 := Lib.hid (HW2.out.grown hgrow3 (by first | omega | (simp; done) | (simp; omega)) (fun q hq => (HO2.out.lt q hq).1)); clear hown3 hgrow3))
            all_goals
              obtain ⟨g', cp', rfl, hq1, hq2, hq3, hq4, hq5⟩ := best_next (b0 := w.heap.size) (by omega) hlt hki (HQ.out.symm.trans HPK.out) HO3.out
              have HQ5 := Lib.hid hq5
              have hg4 : w.heap.size < g' := by omega
              have HQ4 := Lib.hid hg4
              have HWX := Lib.hid (HW.out.trans ((HBI.out.trans ((HBP.out.mono (by omega)).trans (HW3.out.mono hoe))).mono (by omega)))
              have hz3 := HW3.out.size
              clear hq5 hg4
              go_wp2
              go_roundw
              case rel => exact ⟨i + 1, g', cp', by go_num, by omega, rfl, hq1, hq2, hq3, HQ4.out, HQ5.out, HWX.out, by omega⟩
              case measure => simp [Lib.intOf]; omega
    · obtain rfl : i = d.size := by omega
      have HWW := Lib.hid (HA.out.trans (HW.out.mono (by omega)))
      go_wp2
      go_ret
      refine ⟨_, rfl, ?_, HWW.out⟩
      have e : bestL lt d.size d.size = (bestO d).toList := by
        rw [bestL_all, HLT.out, ← best_sort]
        rfl
      rw [← e]
      exact HOW.out

set_option maxRecDepth 100000 in
set_option maxHeartbeats 1000000 in
theorem specBest_any (b off cap : Nat) (d : Array CaseD) (rest : Int) (w : World) (hR : RowC w b off d) (hcap : d.size ≤ cap) (hmax : cap ≤ maxLen) :
    Calls Tryd.prog 24 #[.agg #[.slice (some ⟨b, off, none⟩) d.size cap, .int .i64 rest]] w (Ints2 w.heap.size (bestN d rest) (swB d rest) w) := by
  have hv := fun W (hW : RowKit.Below w.heap.size w W) => specValid_any b off cap d rest W (hR.below hW) hcap hmax
  have hk := fun W (hW : RowKit.Below w.heap.size w W) (h1 : SwOK d rest) => l3Sorted_any b off cap d rest W (hR.below hW) h1
  have HK := Lib.hid hk
  obtain ⟨wa, hwa⟩ : ∃ wa, wa = w.alloc (.cells #[.slice (some ⟨b, off, none⟩) d.size cap, .int .i64 rest] 30) := ⟨_, rfl⟩
  have c0 : wa.cell? ⟨w.heap.size, 0, none⟩ = some (.slice (some ⟨b, off, none⟩) d.size cap) := by rw [hwa]; simp
  have c1 : wa.cell? ⟨w.heap.size, 1, none⟩ = some (.int .i64 rest) := by rw [hwa]; simp
  have hz : w.heap.size < wa.heap.size := by rw [hwa]; simp
  have hba : RowKit.Below w.heap.size w wa := by rw [hwa]; exact (Below.refl _ _).alloc (Nat.le_refl _) _
  have HA := Lib.hid hba
  have C0 := Lib.hid c0
  have C1 := Lib.hid c1
  have HWA := Lib.hid hwa
  clear hba c0 c1 hwa hR hk
  cases hs : swB d rest
  all_goals
    simp only [hs] at hv
    have HV := Lib.hid hv
    have HS := Lib.hid hs
    clear hv hs
    go_enter Tryd.func24, Tryd.ntmps24
    go_wp2_with fail
    rw [← HWA.out]
    refine (HV.out _ HA.out).mono ?_
    rintro x w1 ⟨rfl, hb⟩
    have HB := Lib.hid hb
    have hz1 := hb.size
    have a0 := (hb.cell (p := ⟨w.heap.size, 0, none⟩) hz).trans C0.out
    have a1 := (hb.cell (p := ⟨w.heap.size, 1, none⟩) hz).trans C1.out
    have HWB := Lib.hid (HA.out.trans (HB.out.mono (by omega)))
    clear hb
    go_wp2_with fail
  · go_ret2
    refine ⟨_, rfl, ?_, HWB.out.alloc (by omega) _⟩
    rw [bestN, if_neg (by rw [HS.out]; simp)]
    exact World.ownsRow_made (base := w.heap.size) (e := 3) (size := 1) w1 #[] 0 (by omega) (by unfold maxLen; omega) rfl
  · have hok := (swB_iff d rest).1 HS.out
    refine (HK.out _ HWB.out hok).mono ?_
    rintro x w2 ⟨v, rfl, ho, hb2⟩
    have HO := Lib.hid ho
    have HWS := Lib.hid HWB.out.size
    have HB2 := Lib.hid (HWB.out.trans (hb2.mono HWB.out.size))
    clear hok ho hb2
    go_wp2
    go_ret2
    refine ⟨_, rfl, ?_, HB2.out⟩
    rw [bestN, if_pos HS.out]
    obtain ⟨h1, h2⟩ := HO.out
    refine ⟨h1, ?_⟩
    rcases h2 with h2 | ⟨g, cap', cur, hv', hg, hr⟩
    · exact .inl h2
    · exact .inr ⟨g, cap', cur, hv', Nat.le_trans HWS.out hg, hr⟩
end Go.Proofs.YthchhgjnelkmhaaDoor
