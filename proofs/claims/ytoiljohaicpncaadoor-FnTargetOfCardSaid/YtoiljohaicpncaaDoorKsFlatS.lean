
/- A slice of cases that a call has made: the cells of its list; the append of one case. No walk. · The model's segments and how many gaps it counts. -/
import Derived.Test.YtoiljohaicpncaaDoorKsSegP
import Derived.Test.YtoiljohaicpncaaDoorKsCopy
import Derived.Test.YtoiljohaicpncaaDoorKsSums
import Derived.Test.YtoiljohaicpncaaDoorKsKeep
namespace Go.Proofs.YtoiljohaicpncaaDoor
open Go.RowKit Go.Shelf Go.Lib Go.Sort

def flatL (l : List CaseD) : List Value := l.flatMap encC
theorem flatL_snoc (l : List CaseD) (x : CaseD) : flatL l ++ encC x = flatL (l ++ [x]) := by simp [flatL]
theorem flatL_length : ∀ l : List CaseD, (flatL l).length = l.length * 4
  | [] => rfl
  | c :: l => by
    have ih := flatL_length l
    show (encC c ++ flatL l).length = _
    rw [List.length_append, ih, List.length_cons, show (encC c).length = 4 from rfl]
    omega
theorem flatL_get : ∀ (l : List CaseD) (j r : Nat), r < 4 → (flatL l)[j * 4 + r]? = (l[j]?).bind fun c => (encC c)[r]?
  | [], j, r, _ => by simp [flatL]
  | c :: l, 0, r, hr => by
    show (encC c ++ flatL l)[0 * 4 + r]? = _
    rw [List.getElem?_append_left (by rw [show (encC c).length = 4 from rfl]; omega)]
    simp
  | c :: l, j + 1, r, hr => by
    show (encC c ++ flatL l)[(j + 1) * 4 + r]? = _
    rw [List.getElem?_append_right (by rw [show (encC c).length = 4 from rfl]; omega), show (encC c).length = 4 from rfl, show (j + 1) * 4 + r - 4 = j * 4 + r by omega, flatL_get l j r hr]
    simp
theorem toArray_get (l : List CaseD) (j : Nat) : l.toArray[j]! = l[j]! := by simp
theorem owns_row {w : World} {base g n cap : Nat} {l : List CaseD} (ho : w.ownsRow base 35 4 (.slice (some ⟨g, 0, none⟩) n cap) n (flatL l)) : RowC w g 0 l.toArray := by
  have hn : n = l.length := by have h1 := ho.1; rw [flatL_length] at h1; omega
  have hg : g < w.heap.size := (ho.lt g rfl).2
  have hc : ∀ j r, j < l.length → r < 4 → w.cell? ⟨g, 0 + j * 4 + r, none⟩ = (encC l[j]!)[r]? := fun j r hj hr => by
    rw [Nat.zero_add, ho.cellAt (j * 4 + r) (by omega), flatL_get l j r hr]
    simp [hj]
  refine ⟨hg, fun j hj => ?_, fun j hj => ?_, fun j hj => ?_, fun j hj => ?_⟩
  all_goals
    have hj' : j < l.length := by simpa using hj
    rw [toArray_get]
  · exact hc j 0 hj' (by decide)
  · exact hc j 1 hj' (by decide)
  · exact hc j 2 hj' (by decide)
  · exact hc j 3 hj' (by decide)
theorem infoC : (Tryd.prog.info? 35).map (fun i => (i.zero, i.size, i.bytes)) = some (some (.agg #[.int .i64 0, .int .i64 0, .string ⟨#[]⟩, .int .i64 0]), 4, 40) := by kernel_rfl
def zeroC : Value := .agg #[.int .i64 0, .int .i64 0, .string ⟨#[]⟩, .int .i64 0]
theorem cells_new (W : World) (c : CaseD) (T : TypeId) : ∀ j u, (encC c)[j]? = some u → (W.alloc (.cells #[.int .i64 c.low, .int .i64 c.high, .string c.target, .int .i64 c.weight] T)).cell? ((⟨W.heap.size, 0, none⟩ : Addr).add j) = some u := fun j u hj => by
  match j, hj with
  | 0, hj => simp only [encC, List.getElem?_cons_zero, Option.some.injEq] at hj; subst hj; simp [Addr.add]
  | 1, hj => simp [encC] at hj; subst hj; simp [Addr.add]
  | 2, hj => simp [encC] at hj; subst hj; simp [Addr.add]
  | 3, hj => simp [encC] at hj; subst hj; simp [Addr.add]
  | j + 4, hj => simp [encC] at hj
theorem cells_at {W : World} {g : Nat} {v0 v1 v2 v3 : Value} {T : TypeId} (hg : g = W.heap.size) : ∀ j u, [v0, v1, v2, v3][j]? = some u → (W.alloc (.cells #[v0, v1, v2, v3] T)).cell? ((⟨g, 0, none⟩ : Addr).add j) = some u := fun j u hj => by
  subst hg
  match j, hj with
  | 0, hj => simp at hj; subst hj; simp [Addr.add]
  | 1, hj => simp at hj; subst hj; simp [Addr.add]
  | 2, hj => simp at hj; subst hj; simp [Addr.add]
  | 3, hj => simp at hj; subst hj; simp [Addr.add]
  | j + 4, hj => simp at hj
theorem below_append {a wr w1 : World} {B : Nat} {v : Value} {base : Nat} {e : TypeId} {size n : Nat} {xs : List Value} {tmp : Obj} (hb : RowKit.Below B a wr) (hB : B ≤ wr.heap.size) (hg : (wr.alloc tmp).grownBy w1 v.ownBlock) (ho : wr.ownsRow base e size v n xs) (hbase : B ≤ base) : RowKit.Below B a w1 :=
  (hb.alloc hB tmp).grown hg (by simp; omega) (fun q hq => Nat.le_trans hbase (ho.lt q hq).1)
theorem owns_not_nil {w : World} {base : Nat} {e : TypeId} {size n : Nat} {v : Value} {xs : List Value} (h : w.ownsRow base e size v (n + 1) xs) : v ≠ .slice none 0 0 := fun e' => by
  rcases h.2 with ⟨_, h0⟩ | ⟨g, cap, cur, h0, _⟩
  · omega
  · rw [e'] at h0
    cases h0
theorem owns_base {w : World} {base base' : Nat} {e : TypeId} {size n : Nat} {v : Value} {xs : List Value} (h : w.ownsRow base e size v n xs) (hb : base' ≤ base) : w.ownsRow base' e size v n xs := by
  refine ⟨h.1, ?_⟩
  rcases h.2 with hn | ⟨g, cap, cur, hv, hbg, r⟩
  · exact .inl hn
  · exact .inr ⟨g, cap, cur, hv, Nat.le_trans hb hbg, r⟩
end Go.Proofs.YtoiljohaicpncaaDoor

namespace Go.Proofs.YtoiljohaicpncaaDoor
open Go.RowKit Go.Shelf Go.Lib Go.Sort

/-- A slice value that a call has made: it owns the cases of a list. -/
def OwnsC (base : Nat) (v : Value) (l : List CaseD) (w : World) : Prop := w.ownsRow base 35 4 v l.length (flatL l)

set_option maxRecDepth 100000 in
set_option maxHeartbeats 2000000 in
theorem l2Segments_any (b off cap : Nat) (d : Array CaseD) (rest : Int) (w : World) (hR : RowC w b off d) (hok : SwOK d rest) :
    Calls Tryd.prog 82 #[.agg #[.slice (some ⟨b, off, none⟩) d.size cap, .int .i64 rest]] w fun x w' => ∃ v, x = .returned v ∧ OwnsC w.heap.size v (segs d rest) w' ∧ v ≠ .slice none 0 0 ∧ RowKit.Below w.heap.size w w' := by
  have HR := Lib.hid hR
  have HO := Lib.hid hok
  have h8 : (d.size : Int) ≤ 8 := by have := hok.size; omega
  have hrest := rest_bounds hok
  obtain ⟨i0, hi, hi0, hi1, hi2⟩ := info_parts infoC
  obtain ⟨wa, hwa⟩ : ∃ wa, wa = (w.alloc (.cells #[.slice (some ⟨b, off, none⟩) d.size cap, .int .i64 rest] 25)).alloc (.cells #[] 35) := ⟨_, rfl⟩
  have c0 : wa.cell? ⟨w.heap.size, 0, none⟩ = some (.slice (some ⟨b, off, none⟩) d.size cap) := by rw [hwa]; simp [go_sem]
  have c1 : wa.cell? ⟨w.heap.size, 1, none⟩ = some (.int .i64 rest) := by rw [hwa]; simp [go_sem]
  have hza : wa.heap.size = w.heap.size + 2 := by rw [hwa]; simp
  have hba : RowKit.Below w.heap.size w wa := by rw [hwa]; exact ((Below.refl _ _).alloc (Nat.le_refl _) _).alloc (by simp) _
  have hown : wa.ownsRow (w.heap.size + 1) 35 4 (.slice (some ⟨w.heap.size + 1, 0, none⟩) 0 0) 0 [] := by
    rw [hwa]
    have := World.ownsRow_made (base := w.heap.size + 1) (e := 35) (size := 4) (w.alloc (.cells #[.slice (some ⟨b, off, none⟩) d.size cap, .int .i64 rest] 25)) #[] 0 (by simp) (by unfold maxLen; omega) rfl
    simpa using this
  have HA := Lib.hid hba
  have HOW := Lib.hid hown
  have HZA := Lib.hid hza
  have C1 := Lib.hid c1
  have HRS := Lib.hid hrest
  clear hR hok hba hown hza hrest
  go_enter Tryd.func82, Tryd.ntmps82
  go_wp2_with fail
  rw [← hwa]
  clear hwa c0 c1
  go_loopw [3, 4, 11] (fun v nx i wr => ∃ k : Nat, i = .int .i64 k ∧ nx = .int .i64 (nextTo d k) ∧ k ≤ d.size ∧ Hid (OwnsC (w.heap.size + 1) v (segTo d rest k) wr) ∧ Hid (v ≠ .slice none 0 0) ∧ Hid (RowKit.Below (w.heap.size + 1) wa wr) ∧ wa.heap.size ≤ wr.heap.size) (fun _ _ i _ => d.size - (intOf i).toNat)
  case atStart => exact ⟨0, rfl, rfl, Nat.zero_le _, HOW.out, (by intro h; cases h), Below.refl _ _, Nat.le_refl _⟩
  case round =>
    obtain ⟨k, rfl, rfl, hk, HOk, HNN, HW, hw2⟩ := hrel
    obtain ⟨nx, hnx⟩ : ∃ nx, nx = nextTo d k := ⟨_, rfl⟩
    have hnb := nextTo_bounds HO.out k hk
    rw [← hnx] at hnb ⊢
    have HNX := Lib.hid hnx
    clear hnx
    obtain ⟨hn0, hn32⟩ := hnb
    have HWW := Lib.hid (HA.out.trans (HW.out.mono (Nat.le_succ _)))
    have hlen := (segTo_length d rest k).2
    obtain ⟨L, hL⟩ : ∃ L, L = segTo d rest k := ⟨_, rfl⟩
    rw [← hL] at hlen HOk
    have HL := Lib.hid hL
    clear hL
    have r1 := (HW.out.cell (p := ⟨w.heap.size, 1, none⟩) (Nat.lt_succ_self _)).trans C1.out
    have hzl : w.heap.size < wr.heap.size := by have := HZA.out; omega
    by_cases hlt : k < d.size
    · have hx := HR.out.below HWW.out
      have x0 := hx.low k hlt
      have x1 := hx.high k hlt
      have x2 := hx.target k hlt
      have x3 := hx.weight k hlt
      have hcase := HO.out.case k hlt
      have hle := nextTo_le HO.out k hlt
      clear hx
      obtain ⟨x, hxe⟩ : ∃ x, x = d[k]! := ⟨_, rfl⟩
      rw [← hxe] at x0 x1 x2 x3 hcase hle
      rw [← HNX.out] at hle
      have XE := Lib.hid hxe
      clear hxe
      have l1 := caseB_low hcase
      have l2 := caseB_high hcase
      obtain ⟨l11, l12⟩ := l1
      obtain ⟨l21, l22⟩ := l2
      clear hcase
      have HNX1 := Lib.hid (show nextTo d (k + 1) = x.high + 1 by rw [XE.out]; rfl)
      have HS1 := Lib.hid (show segTo d rest (k + 1) = L ++ (if nx < x.low then [gapC rest nx (x.low - 1)] else []) ++ [x] by rw [HL.out, HNX.out, XE.out]; rfl)
      by_cases hg : nx < x.low
      · have hnr := old_row HOk.out (Nat.le_refl _)
        have HNR := Lib.hid hnr
        clear hnr
        go_wp2_with (first
          | (at_builtin; refine wpList_append_at _ rfl (.tmp 19) (.tmp 27) 23 rfl (w.heap.size + 1) 35 i0 zeroC 4 40 Tryd.underlying23 hi hi0 hi1 hi2 rfl (by decide) _ _ _ rfl ((World.ownsRow.alloc HOk.out _).alloc _) ⟨wr.heap.size + 1, 0, none⟩ 1 1 (encC (gapC rest nx (x.low - 1))) rfl rfl ?c1 (encC_one _) (by unfold maxLen; omega) (by omega) (by simp; omega) (by decide) ?_)
          | fail)
        case c1 => exact cells_at (by simp)
        intro v1 w1 hown1 hgrow1 hat1
        rw [flatL_snoc] at hown1
        have q0 := hgrow1.cell (a := ⟨wr.heap.size, 0, none⟩) (v := .int .i64 x.low) (by simp) (Ne.symm HNR.out)
        have q1 := hgrow1.cell (a := ⟨wr.heap.size, 1, none⟩) (v := .int .i64 x.high) (by simp) (Ne.symm HNR.out)
        have q2 := hgrow1.cell (a := ⟨wr.heap.size, 2, none⟩) (v := .string x.target) (by simp) (Ne.symm HNR.out)
        have q3 := hgrow1.cell (a := ⟨wr.heap.size, 3, none⟩) (v := .int .i64 x.weight) (by simp) (Ne.symm HNR.out)
        have HB1 := Lib.hid (below_append (HW.out.alloc (by omega) _) (by simp; omega) hgrow1 (World.ownsRow.alloc HOk.out _) (Nat.le_refl _))
        have hz1 : wr.heap.size + 2 ≤ w1.heap.size := by have := hgrow1.size; simpa using this
        have HN1 := Lib.hid (not_row hat1 HNR.out (by omega))
        have HO1 := Lib.hid hown1
        clear hown1 hgrow1 hat1
        go_wp2_with (first
          | (at_builtin; refine wpList_append_at _ rfl (.tmp 29) (.tmp 31) 23 rfl (w.heap.size + 1) 35 i0 zeroC 4 40 Tryd.underlying23 hi hi0 hi1 hi2 rfl (by decide) _ _ _ rfl (World.ownsRow.alloc HO1.out _) ⟨w1.heap.size, 0, none⟩ 1 1 (encC x) rfl rfl ?c1 (encC_one _) (by unfold maxLen; omega) (by omega) (by simp; omega) (by decide) ?_)
          | fail)
        case c1 => exact cells_at rfl
        intro v2 w2 hown2 hgrow2 _
        rw [flatL_snoc] at hown2
        have p1 := hgrow2.cell (a := ⟨wr.heap.size, 1, none⟩) (v := .int .i64 x.high) (by rw [World.cell?_alloc_lt _ _ _ (by show wr.heap.size < _; omega)]; exact q1) HN1.out
        have HB2 := Lib.hid (below_append HB1.out (by omega) hgrow2 HO1.out (Nat.le_refl _))
        have hz2 : wr.heap.size + 2 ≤ w2.heap.size := by have := hgrow2.size; simp at this; omega
        have HO2 := Lib.hid hown2
        have HNV := Lib.hid (owns_not_nil hown2)
        clear hown2 hgrow2 q0 q1 q2 q3
        go_wp2
        go_roundw
        case rel =>
          refine ⟨k + 1, by go_num, by rw [HNX1.out], by omega, ?_, HNV.out, HB2.out, by omega⟩
          show OwnsC _ _ _ _
          rw [HS1.out, if_pos hg]
          unfold OwnsC
          simpa using HO2.out
        case measure => simp [intOf]; omega
      · have hnr := old_row HOk.out (Nat.le_refl _)
        have HNR := Lib.hid hnr
        clear hnr
        go_wp2_with (first
          | (at_builtin; refine wpList_append_at _ rfl (.tmp 29) (.tmp 31) 23 rfl (w.heap.size + 1) 35 i0 zeroC 4 40 Tryd.underlying23 hi hi0 hi1 hi2 rfl (by decide) _ _ _ rfl ((World.ownsRow.alloc HOk.out _).alloc _) ⟨wr.heap.size + 1, 0, none⟩ 1 1 (encC x) rfl rfl ?c1 (encC_one _) (by unfold maxLen; omega) (by omega) (by simp; omega) (by decide) ?_)
          | fail)
        case c1 => exact fun _ _ h => h
        intro v2 w2 hown2 hgrow2 _
        rw [flatL_snoc] at hown2
        have p1 := hgrow2.cell (a := ⟨wr.heap.size, 1, none⟩) (v := .int .i64 x.high) (by simp) (Ne.symm HNR.out)
        have HB2 := Lib.hid (below_append (HW.out.alloc (by omega) _) (by simp; omega) hgrow2 (World.ownsRow.alloc HOk.out _) (Nat.le_refl _))
        have hz2 : wr.heap.size + 2 ≤ w2.heap.size := by have := hgrow2.size; simpa using this
        have HO2 := Lib.hid hown2
        have HNV := Lib.hid (owns_not_nil hown2)
        clear hown2 hgrow2
        go_wp2
        go_roundw
        case rel =>
          refine ⟨k + 1, by go_num, by rw [HNX1.out], by omega, ?_, HNV.out, HB2.out, by omega⟩
          show OwnsC _ _ _ _
          rw [HS1.out, if_neg (by omega), List.append_nil]
          unfold OwnsC
          simpa using HO2.out
        case measure => simp [intOf]; omega
    · have hke : k = d.size := by omega
      have HKE := Lib.hid hke
      clear hke
      have HSE := Lib.hid (show segs d rest = L ++ (if nx ≤ 31 then [gapC rest nx 31] else []) by rw [HL.out, HNX.out, HKE.out]; rfl)
      go_wp2_with (first
          | (at_builtin; refine wpList_append_at _ rfl (.tmp 39) (.tmp 44) 23 rfl (w.heap.size + 1) 35 i0 zeroC 4 40 Tryd.underlying23 hi hi0 hi1 hi2 rfl (by decide) _ _ _ rfl (World.ownsRow.alloc HOk.out _) ⟨wr.heap.size, 0, none⟩ 1 1 (encC (gapC rest nx 31)) rfl rfl ?c1 (encC_one _) (by unfold maxLen; omega) (by omega) (by simp; omega) (by decide) ?_)
          | fail)
      case c1 => exact cells_at rfl
      · intro v2 w2 hown2 hgrow2 _
        rw [flatL_snoc] at hown2
        have hle : nx ≤ 31 := by assumption
        have HB2 := Lib.hid (below_append HW.out (by omega) hgrow2 HOk.out (Nat.le_refl _))
        have HO2 := Lib.hid hown2
        have HNV := Lib.hid (owns_not_nil hown2)
        clear hown2 hgrow2
        go_wp2
        go_ret
        refine ⟨_, rfl, ?_, HNV.out, HA.out.trans (HB2.out.mono (Nat.le_succ _))⟩
        rw [HSE.out, if_pos hle]
        unfold OwnsC
        simpa using owns_base HO2.out (Nat.le_succ _)
      · have hle : 31 < nx := by assumption
        go_ret
        refine ⟨_, rfl, ?_, HNN.out, HWW.out⟩
        rw [HSE.out, if_neg (by omega), List.append_nil]
        exact owns_base HOk.out (Nat.le_succ _)
end Go.Proofs.YtoiljohaicpncaaDoor
