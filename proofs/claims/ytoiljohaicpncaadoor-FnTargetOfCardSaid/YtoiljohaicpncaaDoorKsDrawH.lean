
/- Draws of switches: l1Some. -/
import Derived.Test.YtoiljohaicpncaaDoorKsDrawG
namespace Go.Proofs.YtoiljohaicpncaaDoor
open Go.RowKit Go.Shelf Go.Lib Go.Sort

theorem wpList_append_ownW {P : Program} (w : World) {ops : Array Oper} {rest : List Oper} {o : Oper} {a : Act} {Q : Exit → Act → World → Prop}
    (hg : o.guard = none) (s x : Operand) (t : TypeId) (hop : o.op = Op.call { callee := Callee.builtin Builtin.append, args := #[s, x], argTypes := #[t, t] })
    (base : Nat) (e : TypeId) (i : TypeInfo) (z : Value) (size bytes : Nat) (h1 : P.underlying t = some (.slice e)) (h2 : P.info? e = some i) (h3 : i.zero = some z) (h4 : i.size = size) (h5 : i.bytes = bytes) (h6 : z.cells.size = size) (h7 : 0 < size)
    (v : Value) (k : Nat) (xs : List Value) (hs : a.eval s = v) (hown : w.ownsRow base e size v k xs) (ad : Addr) (m c : Nat) (news : List Value) (hx : a.eval x = .slice (some ad) m c) (hn : news.length = m * size)
    (hc : ∀ j u, news[j]? = some u → w.cell? (ad.add j) = some u) (h1c : ∀ u ∈ news, u.oneCell' = true) (b1 : k + m ≤ maxLen) (b2 : (k + m) * bytes ≤ 140737488355328) (b3 : base ≤ w.heap.size)
    (hK : ∀ v' w', w'.ownsRow base e size v' (k + m) (xs ++ news) → w.grownBy w' v.ownBlock → (v'.ownBlock = v.ownBlock ∨ v'.ownBlock = some w.heap.size) → wpList P ops Q rest (a.put o.dst v') w') :
    wpList P ops Q (o :: rest) a w := by
  refine wpList_plain hg fun K hK' => ?_
  obtain ⟨v', w', hrun, r1, r2, _, r3⟩ := run_append_own_at (P := P) w base t o.type e i z size bytes h1 h2 h3 h4 h5 h6 h7 v k xs hown ad m c news hn hc h1c b1 b2 b3
  unfold Oper.wp execOp
  simp only [hop, resolve, invoke, builtin, Sem.run_bind, Sem.run_pure, Result.andThen_ok, List.map_toArray, List.map_cons, List.map_nil, hs, hx, hrun]
  exact hK' _ _ (hK v' w' r1 r2 r3)

set_option maxRecDepth 100000 in
set_option maxHeartbeats 4000000 in
theorem some_any (g p : Nat) (w : World) (h : RdAt w g p) (hp : p ≤ 40000) :
    Calls Tryd.prog 64 #[.pointer (some ⟨g, 0, none⟩)] w (DrewSw g (p + 80) 9 w) := by
  obtain ⟨i0, hi, hi0, hi1, hi2⟩ := info_parts infoC
  obtain ⟨wa, hwa⟩ : ∃ wa, wa = w.alloc (.cells #[.slice none 0 0, .int .i64 0] 25) := ⟨_, rfl⟩
  have HRX := Lib.hid (show BoxS wa w.heap.size (.slice none 0 0) 0 by rw [hwa]; exact BoxS.new _ _ _)
  have HGA := Lib.hid (show w.grownBy wa (some g) by rw [hwa]; exact World.grownBy_alloc _ _ _)
  have HRA := Lib.hid (show RdAt wa g p by rw [hwa]; exact h.alloc _)
  have hz : w.heap.size < wa.heap.size := by rw [hwa]; simp
  have HWA := Lib.hid hwa
  have hgw : g < w.heap.size := h.1
  have HGD := Lib.hid (good_any g p wa HRA.out (by omega))
  clear hwa h
  go_enter Tryd.func64, Tryd.ntmps64
  go_wp2_with fail
  rw [← HWA.out]
  refine HGD.out.mono ?_
  rintro x w1 ⟨D, r, hs, ⟨v, rfl, ho, hv⟩, hR1, hG1⟩
  have hz1 := hG1.size
  obtain ⟨gd, cd, rfl, hgd, hcd, hmd⟩ := owns_form ho hv
  have hDl : D.toList.length = D.size := Array.length_toList
  rw [hDl] at ho hv hcd
  obtain ⟨wb, hwb⟩ : ∃ wb, wb = w1.alloc (.cells #[.slice (some ⟨gd, 0, none⟩) D.size cd, .int .i64 r] 25) := ⟨_, rfl⟩
  have HBX := Lib.hid (show BoxS wb w1.heap.size (.slice (some ⟨gd, 0, none⟩) D.size cd) r by rw [hwb]; exact BoxS.new _ _ _)
  have HRB := Lib.hid (show RdAt wb g (p + 60) by rw [hwb]; exact hR1.alloc _)
  have HGB := Lib.hid (show w.grownBy wb (some g) by rw [hwb]; exact grownBy_trans (grownBy_trans HGA.out hG1) (World.grownBy_alloc _ _ _))
  have RXB := Lib.hid (show BoxS wb w.heap.size (.slice none 0 0) 0 by rw [hwb]; exact (HRX.out.kept hG1 (by simp; omega)).kept (row := none) (World.grownBy_alloc _ _ _) (by simp))
  have HOB := Lib.hid (show OwnsC wa.heap.size (.slice (some ⟨gd, 0, none⟩) D.size cd) D.toList wb by rw [hwb]; exact World.ownsRow.alloc ho _)
  have hzb : w1.heap.size < wb.heap.size := by rw [hwb]; simp
  have HWB := Lib.hid hwb
  have HS := Lib.hid hs
  have HV := Lib.hid hv
  clear hwb ho hv hR1 hG1 hs
  go_wp2_with fail
  rw [← HWB.out]
  refine (pickR_any g 30 (p + 60) _ HRB.out (by omega) (by omega)).mono ?_
  rintro x w2 ⟨q, rfl, _, hR2, hG2⟩
  have hz2 := hG2.size
  have HR2 := Lib.hid hR2
  have HG2 := Lib.hid (grownBy_trans HGB.out hG2)
  have RX2 := Lib.hid (RXB.out.kept hG2 (by simp; omega))
  have HB2 := Lib.hid (HBX.out.kept hG2 (by simp; omega))
  have HO2 := Lib.hid (show OwnsC wa.heap.size (.slice (some ⟨gd, 0, none⟩) D.size cd) D.toList w2 from World.ownsRow.kept HOB.out hG2 (.inr (by simp [Value.ownBlock]; omega)))
  clear hR2 hG2
  have HNG := Lib.hid (show (Value.slice (some ⟨gd, 0, none⟩) D.size cd).ownBlock ≠ some g by simp [Value.ownBlock]; omega)
  have hDs := HS.out.1
  by_cases hq0 : q = 0
  · subst hq0
    go_wp2_with fail
    refine (numLit_any g (p + 61) [-1, 100, 9223372036854775807] _ HR2.out (by omega) (by simp) (by simp)).mono ?_
    rintro x w3 ⟨z, _, rfl, hR3, hG3⟩
    have hz3 := hG3.size
    have HR3 := Lib.hid hR3
    have HG3 := Lib.hid (grownBy_trans HG2.out hG3)
    have RX3 := Lib.hid (RX2.out.kept hG3 (by simp; omega))
    have HB3 := Lib.hid (HB2.out.kept hG3 (by simp; omega))
    have HO3 := Lib.hid (show OwnsC _ _ _ w3 from World.ownsRow.kept HO2.out hG3 (.inr HNG.out))
    clear hR3 hG3
    have b0 := HB3.out.c0
    have b1 := HB3.out.c1
    have b2 := HB3.out.z 1
    have c0 := RX3.out.c0
    have c1 := RX3.out.c1
    have c2 := RX3.out.z 0
    have c3 := RX3.out.z 1
    have hbl := HB3.out.lt
    have hcl := RX3.out.lt
    have GS := grown_set w3 w1.heap.size 1 (.int .i64 z)
    have GX : w3.grownBy (w3.setCell ⟨w1.heap.size, 1, none⟩ (.int .i64 z)) (some w1.heap.size) := GS
    have GW : w.grownBy (w3.setCell ⟨w1.heap.size, 1, none⟩ (.int .i64 z)) (some g) := ⟨GS.os.trans HG3.out.os, GS.tape.trans HG3.out.tape, GS.output.trans HG3.out.output, Nat.le_trans HG3.out.size GS.size, fun q hq hne => (GS.block q (Nat.lt_of_lt_of_le hq HG3.out.size) (by simp; omega)).trans (HG3.out.block q hq hne)⟩
    obtain ⟨RZ, OZ, GZ⟩ := put_sw (RX3.out.kept GS (by simp; omega)) (World.ownsRow.kept HO3.out GS (.inr (HB3.out.not_row HO3.out))) (z)
    have HRZ := Lib.hid RZ
    have HOZ := Lib.hid OZ
    have HGZ := Lib.hid GZ
    have HGL := Lib.hid (GW)
    have HRL := Lib.hid (HR3.out.kept GX (fun q e => by cases e; omega))
    clear RZ OZ GZ
    go_wp2_with fail
    refine bodyPost_ret (v := .agg #[.slice (some ⟨gd, 0, none⟩) D.size cd, .int .i64 z]) (by simp [results, Tryd.results64, go_sem, HRZ.out.c0, HRZ.out.c1]) rfl (DrewSw.mk D z (HS.out.mono (by omega)) ⟨_, rfl, owns_base HOZ.out (by omega), HV.out⟩ ((HRL.out.kept HGZ.out (fun q e => by cases e; omega)).le (by omega)) ?_)
    have hG3 := HGL.out
    have hG4 := HGZ.out
    exact ⟨hG4.os.trans hG3.os, hG4.tape.trans hG3.tape, hG4.output.trans hG3.output, Nat.le_trans hG3.size hG4.size, fun q hq hne => (hG4.block q (Nat.lt_of_lt_of_le hq hG3.size) (by simp; omega)).trans (hG3.block q hq hne)⟩
  · have hqb : ((q : Int) == 0) = false := by simp; omega
    by_cases hq1 : q = 1
    · subst hq1
      have b0 := HB2.out.c0
      have hbl := HB2.out.lt
      have HC := Lib.hid (show ∀ j u, (flatL D.toList)[j]? = some u → (w2.alloc (.cells #[] 35)).cell? ((⟨gd, 0, none⟩ : Addr).add j) = some u from fun j u hu => by
        have hj : j < D.size * 4 := by
          have := (List.getElem?_eq_some_iff.1 hu).1
          rw [flatL_length] at this
          omega
        have h1 := World.ownsRow.cellAt (World.ownsRow.alloc HO2.out (.cells #[] 35)) j (by omega)
        rw [hu] at h1
        by_cases hj0 : j = 0
        · subst hj0; simpa [Addr.add] using h1
        · simpa [Addr.add, hj0] using h1)
      have HNEW := Lib.hid (show OwnsC w2.heap.size (.slice (some ⟨w2.heap.size, 0, none⟩) 0 0) [] (w2.alloc (.cells #[] 35)) from World.ownsRow_made (base := w2.heap.size) (e := 35) (size := 4) w2 #[] 0 (Nat.le_refl _) (by unfold maxLen; omega) rfl)
      have HFL := Lib.hid (show (flatL D.toList).length = D.size * 4 by rw [flatL_length, hDl])
      go_wp2_with (first
        | (at_builtin; refine wpList_append_ownW _ rfl (.tmp 16) (.tmp 18) 23 rfl w2.heap.size 35 i0 zeroC 4 40 Tryd.underlying23 hi hi0 hi1 hi2 rfl (by decide) _ 0 [] rfl HNEW.out ⟨gd, 0, none⟩ D.size cd (flatL D.toList) rfl HFL.out HC.out ?c1 (by unfold maxLen; omega) (by omega) (by simp) ?_)
        | fail)
      case c1 =>
        intro u hu
        simp only [flatL, List.mem_flatMap] at hu
        obtain ⟨c, _, h2⟩ := hu
        exact encC_one c u h2
      intro v3 w3 hown3 hgrow3 hat3
      have GA2 := World.grownBy_alloc w2 (.cells #[] 35) none
      have hz3 : w2.heap.size < w3.heap.size := by have := hgrow3.size; simp at this; omega
      have hnw : ∀ q, q < w2.heap.size → some q ≠ (Value.slice (some ⟨w2.heap.size, 0, none⟩) 0 0).ownBlock := fun q hq e => by simp [Value.ownBlock] at e; omega
      have HR3 := Lib.hid ((HR2.out.alloc (.cells #[] 35)).kept hgrow3 (fun r e => by simp [Value.ownBlock] at e; omega))
      have RX3 := Lib.hid ((RX2.out.kept GA2 (by simp)).kept hgrow3 (hnw _ (by omega)))
      have HB3 := Lib.hid ((HB2.out.kept GA2 (by simp)).kept hgrow3 (hnw _ (by omega)))
      have HO3 := Lib.hid hown3
      have HG3 := Lib.hid (show w.grownBy w3 (some g) from ⟨hgrow3.os.trans (GA2.os.trans HG2.out.os), hgrow3.tape.trans (GA2.tape.trans HG2.out.tape), hgrow3.output.trans (GA2.output.trans HG2.out.output), by have := HG2.out.size; omega, fun q hq hne => by
        have hs := HG2.out.size
        exact (hgrow3.block q (by simp; omega) (hnw q (by omega))).trans ((GA2.block q (by omega) (by simp)).trans (HG2.out.block q hq hne))⟩)
      have HN3 := Lib.hid (show v3.ownBlock ≠ some g from fun e => by have := (World.ownsRow.lt HO3.out g e).1; omega)
      have HN4 := Lib.hid (show v3.ownBlock ≠ some w.heap.size from fun e => by have := (World.ownsRow.lt HO3.out w.heap.size e).1; omega)
      have HN5 := Lib.hid (show v3.ownBlock ≠ some w1.heap.size from fun e => by have := (World.ownsRow.lt HO3.out w1.heap.size e).1; omega)
      have HN6 := Lib.hid (show ∀ r, v3.ownBlock = some r → w2.heap.size ≤ r from fun r e => (World.ownsRow.lt HO3.out r e).1)
      clear hown3 hgrow3 hat3 GA2 hnw b0
      go_wp2_with fail
      refine (numLit_any g (p + 61) [0, 31, 32, -1] _ HR3.out (by omega) (by simp) (by simp)).mono ?_
      rintro x w4 ⟨y1, _, rfl, hR4, hG4⟩
      have hz4 := hG4.size
      have HR4 := Lib.hid hR4
      have RX4 := Lib.hid (RX3.out.kept hG4 (by simp; omega))
      have HB4 := Lib.hid (HB3.out.kept hG4 (by simp; omega))
      have HO4 := Lib.hid (World.ownsRow.kept HO3.out hG4 (.inr HN3.out))
      have HG4 := Lib.hid (grownBy_trans HG3.out hG4)
      clear hR4 hG4
      go_wp2_with fail
      refine (numLit_any g (p + 62) [31, 32, 5] _ HR4.out (by omega) (by simp) (by simp)).mono ?_
      rintro x w5 ⟨y2, _, rfl, hR5, hG5⟩
      have hz5 := hG5.size
      have HR5 := Lib.hid hR5
      have RX5 := Lib.hid (RX4.out.kept hG5 (by simp; omega))
      have HB5 := Lib.hid (HB4.out.kept hG5 (by simp; omega))
      have HO5 := Lib.hid (World.ownsRow.kept HO4.out hG5 (.inr HN3.out))
      have HG5 := Lib.hid (grownBy_trans HG4.out hG5)
      clear hR5 hG5
      go_wp2_with fail
      refine (ofLit_any g (p + 63) [⟨#[97]⟩, ⟨#[122]⟩, ⟨#[]⟩, ⟨#[97, 98]⟩, ⟨#[104]⟩] _ HR5.out (by omega) (by simp) (by simp)).mono ?_
      rintro x w6 ⟨sz, hsz, rfl, hR6, hG6⟩
      have hz6 := hG6.size
      have HR6 := Lib.hid hR6
      have RX6 := Lib.hid (RX5.out.kept hG6 (by simp; omega))
      have HB6 := Lib.hid (HB5.out.kept hG6 (by simp; omega))
      have HO6 := Lib.hid (World.ownsRow.kept HO5.out hG6 (.inr HN3.out))
      have HG6 := Lib.hid (grownBy_trans HG5.out hG6)
      clear hR6 hG6
      go_wp2_with fail
      have hsz2 : sz.size ≤ 2 := by simp at hsz; rcases hsz with rfl | rfl | rfl | rfl | rfl <;> decide
      clear hsz
      refine (numLit_any g (p + 64) [1, -1, 100] _ HR6.out (by omega) (by simp) (by simp)).mono ?_
      rintro x w7 ⟨y3, _, rfl, hR7, hG7⟩
      have hz7 := hG7.size
      have HR7 := Lib.hid hR7
      have RX7 := Lib.hid (RX6.out.kept hG7 (by simp; omega))
      have HB7 := Lib.hid (HB6.out.kept hG7 (by simp; omega))
      have HO7 := Lib.hid (World.ownsRow.kept HO6.out hG7 (.inr HN3.out))
      have HG7 := Lib.hid (grownBy_trans HG6.out hG7)
      clear hR7 hG7
      go_wp2_with (first
        | (at_builtin; refine wpList_append_at _ rfl (.tmp 19) (.tmp 33) 23 rfl w2.heap.size 35 i0 zeroC 4 40 Tryd.underlying23 hi hi0 hi1 hi2 rfl (by decide) v3 D.size (flatL D.toList) rfl (World.ownsRow.alloc HO7.out _) ⟨w7.heap.size, 0, none⟩ 1 1 (encC ⟨y1, y2, sz, y3⟩) rfl rfl ?c2 (encC_one _) (by unfold maxLen; omega) (by omega) (by simp; omega) (by decide) ?_)
        | fail)
      case c2 => exact cells_at rfl
      intro v8 w8 hown8 hgrow8 hat8
      obtain ⟨g8, cap8, rfl⟩ := ownsRow_succ hown8
      have GA7 := World.grownBy_alloc w7 (.cells #[.int .i64 y1, .int .i64 y2, .string sz, .int .i64 y3] 35) none
      have hz8 : w7.heap.size < w8.heap.size := by have := hgrow8.size; simp at this; omega
      have hrow8 : ∀ q, q < w2.heap.size → some q ≠ v3.ownBlock := fun q hq e => by have := HN6.out q e.symm; omega
      have HR8 := Lib.hid ((HR7.out.alloc (.cells #[.int .i64 y1, .int .i64 y2, .string sz, .int .i64 y3] 35)).kept hgrow8 (fun r e => by have := HN6.out r e; omega))
      have RX8 := Lib.hid ((RX7.out.kept GA7 (by simp)).kept hgrow8 (hrow8 _ (by omega)))
      have HB8 := Lib.hid ((HB7.out.kept GA7 (by simp)).kept hgrow8 (hrow8 _ (by omega)))
      have HG8 := Lib.hid (show w.grownBy w8 (some g) from ⟨hgrow8.os.trans (GA7.os.trans HG7.out.os), hgrow8.tape.trans (GA7.tape.trans HG7.out.tape), hgrow8.output.trans (GA7.output.trans HG7.out.output), by have := HG7.out.size; omega, fun q hq hne => by
        have hs := HG7.out.size
        exact (hgrow8.block q (by simp; omega) (hrow8 q (by omega))).trans ((GA7.block q (by omega) (by simp)).trans (HG7.out.block q hq hne))⟩)
      have HO8 := Lib.hid (show OwnsC w2.heap.size (.slice (some ⟨g8, 0, none⟩) (D.size + 1) cap8) (D.push ⟨y1, y2, sz, y3⟩).toList w8 by
        unfold OwnsC
        rw [Array.toList_push, List.length_append, hDl, ← flatL_snoc]
        exact hown8)
      have HSP := Lib.hid (HS.out.push ⟨y1, y2, sz, y3⟩ hsz2)
      have b0 := HB8.out.c0
      have b1 := HB8.out.c1
      have b2 := HB8.out.z 0
      have c0 := RX8.out.c0
      have c1 := RX8.out.c1
      have c2 := RX8.out.z 0
      have c3 := RX8.out.z 1
      have hbl8 := HB8.out.lt
      have hcl := RX8.out.lt
      have GS := grown_set w8 w1.heap.size 0 (.slice (some ⟨g8, 0, none⟩) (D.size + 1) cap8)
      have GW : w.grownBy (w8.setCell ⟨w1.heap.size, 0, none⟩ (.slice (some ⟨g8, 0, none⟩) (D.size + 1) cap8)) (some g) := ⟨GS.os.trans HG8.out.os, GS.tape.trans HG8.out.tape, GS.output.trans HG8.out.output, Nat.le_trans HG8.out.size GS.size, fun q hq hne => (GS.block q (Nat.lt_of_lt_of_le hq HG8.out.size) (by simp; omega)).trans (HG8.out.block q hq hne)⟩
      clear hown8 hgrow8 hat8 GA7 hrow8
      obtain ⟨RZ, OZ, GZ⟩ := put_sw (RX8.out.kept GS (by simp; omega)) (World.ownsRow.kept HO8.out GS (.inr (HB8.out.not_row HO8.out))) r
      have HRZ := Lib.hid RZ
      have HOZ := Lib.hid OZ
      have HGZ := Lib.hid GZ
      have HGL := Lib.hid GW
      have HRL := Lib.hid (HR8.out.kept GS (fun q e => by cases e; omega))
      clear RZ OZ GZ GW GS
      go_wp2_with fail
      refine bodyPost_ret (v := .agg #[.slice (some ⟨g8, 0, none⟩) (D.size + 1) cap8, .int .i64 r]) (by simp [results, Tryd.results64, go_sem, HRZ.out.c0, HRZ.out.c1]) rfl (DrewSw.mk (D.push ⟨y1, y2, sz, y3⟩) r HSP.out ⟨_, rfl, owns_base HOZ.out (by omega), by simp⟩ ((HRL.out.kept HGZ.out (fun q e => by cases e; omega)).le (by omega)) ?_)
      have hG3 := HGL.out
      have hG4 := HGZ.out
      exact ⟨hG4.os.trans hG3.os, hG4.tape.trans hG3.tape, hG4.output.trans hG3.output, Nat.le_trans hG3.size hG4.size, fun q hq hne => (hG4.block q (Nat.lt_of_lt_of_le hq hG3.size) (by simp; omega)).trans (hG3.block q hq hne)⟩
    · have hqc : ((q : Int) == 1) = false := by simp; omega
      have b0 := HB2.out.c0
      have b1 := HB2.out.c1
      have c0 := RX2.out.c0
      have c1 := RX2.out.c1
      have c2 := RX2.out.z 0
      have c3 := RX2.out.z 1
      have hbl := HB2.out.lt
      have hcl := RX2.out.lt
      obtain ⟨RZ, OZ, GZ⟩ := put_sw (RX2.out) (HO2.out) (r)
      have HRZ := Lib.hid RZ
      have HOZ := Lib.hid OZ
      have HGZ := Lib.hid GZ
      have HGL := Lib.hid (HG2.out)
      have HRL := Lib.hid (HR2.out)
      clear RZ OZ GZ
      go_wp2_with fail
      refine bodyPost_ret (v := .agg #[.slice (some ⟨gd, 0, none⟩) D.size cd, .int .i64 r]) (by simp [results, Tryd.results64, go_sem, HRZ.out.c0, HRZ.out.c1]) rfl (DrewSw.mk D r (HS.out.mono (by omega)) ⟨_, rfl, owns_base HOZ.out (by omega), HV.out⟩ ((HRL.out.kept HGZ.out (fun q e => by cases e; omega)).le (by omega)) ?_)
      have hG3 := HGL.out
      have hG4 := HGZ.out
      exact ⟨hG4.os.trans hG3.os, hG4.tape.trans hG3.tape, hG4.output.trans hG3.output, Nat.le_trans hG3.size hG4.size, fun q hq hne => (hG4.block q (Nat.lt_of_lt_of_le hq hG3.size) (by simp; omega)).trans (hG3.block q hq hne)⟩
end Go.Proofs.YtoiljohaicpncaaDoor
