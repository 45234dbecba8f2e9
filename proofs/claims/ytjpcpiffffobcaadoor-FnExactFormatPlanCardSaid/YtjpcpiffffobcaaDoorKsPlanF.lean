
/- FormatPlan: the program's and the model's. -/
import Derived.Test.YtjpcpiffffobcaaDoorKsTextF
import Derived.Test.YtjpcpiffffobcaaDoorKsQuiet
import Derived.Deep.RegionHeld3
import Derived.BigQuiet
import Derived.Test.YtjpcpiffffobcaaDoorKsClu
import Derived.Test.YtjpcpiffffobcaaDoorKsSteps
import Derived.Test.YtjpcpiffffobcaaDoorKsHoldT
namespace Go.Proofs.YtjpcpiffffobcaaDoor
open Go.RowKit Go.Shelf Go.Lib Go.Sort

def textQ (c : CluD) : ByteArray := c.kind ++ rangeF c.first c.last
/-- Its numbers are ints, and its kind is no longer than 2^20. -/
structure FitQ (c : CluD) : Prop where
  f0 : -9223372036854775808 ≤ c.first
  f1 : c.first ≤ 9223372036854775807
  l0 : -9223372036854775808 ≤ c.last
  l1 : c.last ≤ 9223372036854775807
  kd : c.kind.size ≤ 1048576
theorem textQ_size {c : CluD} (h : FitQ c) : (textQ c).size ≤ 1048640 := by
  have a := rangeF_size h.f0 h.f1 h.l0 h.l1
  have t := h.kd
  unfold textQ
  rw [sizeF_app]
  omega
def segQ (d : Array CluD) : Nat → ByteArray
  | 0 => ⟨#[]⟩
  | 1 => textQ d[0]!
  | k + 2 => (segQ d (k + 1) ++ spaceF) ++ textQ d[k + 1]!
/-- The text of a list of segments. -/
def planF (d : Array CluD) : ByteArray := if d.size = 0 then dashF else segQ d d.size
theorem segQ_size {d : Array CluD} (h : ∀ j, j < d.size → FitQ d[j]!) : ∀ k, k ≤ d.size → (segQ d k).size ≤ 1048641 * k
  | 0, _ => Nat.le_refl 0
  | 1, hk => by have := textQ_size (h 0 (by omega)); show (textQ d[0]!).size ≤ _; omega
  | k + 2, hk => by
    have a := segQ_size h (k + 1) (by omega)
    have b := textQ_size (h (k + 1) (by omega))
    have : spaceF.size = 1 := rfl
    show ((segQ d (k + 1) ++ spaceF) ++ textQ d[k + 1]!).size ≤ _
    rw [sizeF_app, sizeF_app]
    omega
theorem joinTail_snocQ (sep : List UInt8) (r : List (List UInt8)) (y : List UInt8) : Lib.joinTail sep (r ++ [y]) = Lib.joinTail sep r ++ sep ++ y := by
  simp [Lib.joinTail, List.append_assoc]
def textsQ (d : Array CluD) (n : Nat) : List ByteArray := (List.range n).map fun j => textQ d[j]!
theorem textsQ_succ (d : Array CluD) (n : Nat) : textsQ d (n + 1) = textsQ d n ++ [textQ d[n]!] := by simp [textsQ, List.range_succ]
theorem join_textsQ (d : Array CluD) : ∀ n, (⟨(Lib.join ((textsQ d n).map (·.data.toList)) spaceF.data.toList).toArray⟩ : ByteArray) = segQ d n
  | 0 => rfl
  | 1 => by
    show (⟨(Lib.join [(textQ d[0]!).data.toList] spaceF.data.toList).toArray⟩ : ByteArray) = textQ d[0]!
    rw [Lib.join_one]
  | k + 2 => by
    have ih := join_textsQ d (k + 1)
    have hne : ∃ x r, (textsQ d (k + 1)).map (·.data.toList) = x :: r := by
      cases hh : (textsQ d (k + 1)).map (·.data.toList) with
      | nil => have : ((textsQ d (k + 1)).map (·.data.toList)).length = 0 := by rw [hh]; rfl
               simp [textsQ] at this
      | cons x r => exact ⟨x, r, rfl⟩
    obtain ⟨x, r, hx⟩ := hne
    rw [textsQ_succ, List.map_append, hx, List.map_cons, List.map_nil, List.cons_append, Lib.join_cons, joinTail_snocQ, ← List.append_assoc, ← List.append_assoc, ← Lib.join_cons, ← hx]
    show _ = (segQ d (k + 1) ++ spaceF) ++ textQ d[k + 1]!
    rw [← ih]
    generalize Lib.join ((textsQ d (k + 1)).map (·.data.toList)) spaceF.data.toList = l
    apply ByteArray.ext
    simp [ByteArray.data_append]
def strRowQ (d : Array CluD) (n : Nat) : List Value := (List.range n).map fun j => Value.string (textQ d[j]!)
theorem strRowQ_succ (d : Array CluD) (n : Nat) : strRowQ d n ++ [.string (textQ d[n]!)] = strRowQ d (n + 1) := by simp [strRowQ, List.range_succ]
theorem info9Q : (Tryd.prog.info? 9).map (fun i => (i.zero, i.size, i.bytes)) = some (some (.string ⟨#[]⟩), 1, 16) := by kernel_rfl

theorem joinQ_any (d : Array CluD) (n base : Nat) (v : Value) (w : World) (ho : w.ownsRow base 9 1 v n (strRowQ d n)) (hf : ∀ j, j < d.size → FitQ d[j]!) (hd : d.size ≤ 1048576) (hn : n ≤ d.size) :
    Calls Tryd.prog 60 #[v, .string spaceF] w fun x w' => x = .returned (.string (segQ d n)) ∧ RowKit.Below w.heap.size w w' := by
  rcases ho.2 with ⟨rfl, rfl⟩ | ⟨g, cap, cur, rfl, hg, hh, hnc, hcm, _⟩
  · exact (Tryd.strings_Join_none none 0 spaceF w).mono fun _ _ ⟨h1, h2⟩ => ⟨h1, h2 ▸ Below.refl _ _⟩
  · have hlen : (textsQ d n).length = n := by simp [textsQ]
    have h := Tryd.strings_Join g 0 cap (textsQ d n) spaceF w (fun j x hx => ?_) (Array.getElem?_eq_some_iff.1 hh).1 (by rw [hlen]; omega) (by rw [hlen]; exact hnc) ?_
    · rw [hlen, join_textsQ] at h
      exact h
    · obtain ⟨hj, rfl⟩ := List.getElem?_eq_some_iff.1 hx
      have hj' : j < n := by simpa [textsQ] using hj
      rw [Nat.zero_add, ho.cellAt j (by omega)]
      simp [strRowQ, textsQ, hj']
    · have h1 := congrArg ByteArray.size (join_textsQ d n)
      have h2 := segQ_size hf n hn
      have h4 : (⟨(Lib.join ((textsQ d n).map (·.data.toList)) spaceF.data.toList).toArray⟩ : ByteArray).size = (Lib.join ((textsQ d n).map (·.data.toList)) spaceF.data.toList).length := by simp [ByteArray.size]
      rw [h4] at h1
      omega

set_option maxRecDepth 100000 in
set_option maxHeartbeats 4000000 in
theorem implFmtP_any (b off cap : Nat) (d : Array CluD) (w : World) (hR : RowQ w b off d) (hf : ∀ j, j < d.size → FitQ d[j]!) (hd : d.size ≤ 1048576) (hT : TabA w) :
    Calls Tryd.prog 36 #[.slice (some ⟨b, off, none⟩) d.size cap] w fun x w' => x = .returned (.string (planF d)) ∧ RowKit.Below w.heap.size w w' := by
  have HR := Lib.hid hR
  have HF := Lib.hid hf
  have HTA := Lib.hid hT
  obtain ⟨i0, hi, hi0, hi1, hi2⟩ := info_parts info9Q
  have hdi : (d.size : Int) ≤ 1048576 := by omega
  clear hR hf hT
  by_cases h0 : d.size = 0
  · have h0i : ((d.size : Nat) : Int) = 0 := by omega
    have h0b : ((d.size : Int) == 0) = true := by simpa using h0i
    have HE := Lib.hid (show planF d = dashF by rw [planF, if_pos h0])
    clear h0
    go_enter Tryd.func36, Tryd.ntmps36
    go_wp2
    go_ret
    exact ⟨retStr (by rw [HE.out]; rfl), Below.refl _ _⟩
  · have h0i : ¬ ((d.size : Nat) : Int) = 0 := by omega
    have h0b : ((d.size : Int) == 0) = false := by simpa using h0i
    have HE := Lib.hid (show planF d = segQ d d.size by rw [planF, if_neg h0])
    clear h0
    go_enter Tryd.func36, Tryd.ntmps36
    go_wp2_with fail
    go_loopw [3, 11] (fun v i wr => ∃ k : Nat, i = .int .i64 k ∧ k ≤ d.size ∧ Hid (wr.ownsRow w.heap.size 9 1 v k (strRowQ d k)) ∧ Hid (RowKit.Below w.heap.size w wr) ∧ w.heap.size ≤ wr.heap.size) (fun _ i _ => d.size - (intOf i).toNat)
    case atStart => exact ⟨0, rfl, Nat.zero_le _, ⟨rfl, .inl ⟨rfl, rfl⟩⟩, Below.refl _ _, Nat.le_refl _⟩
    case round =>
      obtain ⟨k, rfl, hk, HOwn, HW, hw2⟩ := hrel
      by_cases hlt : k < d.size
      · have hx := HR.out.below HW.out
        have x0 := hx.first k hlt
        have x1 := hx.last k hlt
        have x2 := hx.kind k hlt
        have hcase := HF.out k hlt
        clear hx
        obtain ⟨x, hxe⟩ : ∃ x, x = d[k]! := ⟨_, rfl⟩
        rw [← hxe] at x0 x1 x2 hcase
        have HKW := Lib.hid (show textQ d[k]! = x.kind ++ rangeF x.first x.last by rw [← hxe]; rfl)
        clear hxe
        have HCL := Lib.hid (fun W (hW : RowKit.Below w.heap.size w W) => rangeF_any x.first x.last W hcase.f0 hcase.f1 hcase.l0 hcase.l1 (tabA_below HTA.out hW))
        have hts := rangeF_size hcase.f0 hcase.f1 hcase.l0 hcase.l1
        have hkz := hcase.kd
        obtain ⟨cf, cl, ck⟩ := x
        simp only at *
        obtain ⟨z, hzz⟩ : ∃ z, z = rangeF cf cl := ⟨_, rfl⟩
        rw [← hzz] at HCL HKW hts
        have hki : (k : Int) < (d.size : Int) := by omega
        clear hzz hcase
        go_wp2_with fail
        obtain ⟨wa, hwa⟩ : ∃ wa, wa = wr.alloc (.cells #[.int .i64 cf, .int .i64 cl, .string ck] 34) := ⟨_, rfl⟩
        have hba : RowKit.Below wr.heap.size wr wa := by rw [hwa]; exact (Below.refl _ _).alloc (Nat.le_refl _) _
        have d0 : wa.cell? ⟨wr.heap.size, 0, none⟩ = some (.int .i64 cf) := by rw [hwa]; simp
        have d1 : wa.cell? ⟨wr.heap.size, 1, none⟩ = some (.int .i64 cl) := by rw [hwa]; simp
        have d2 : wa.cell? ⟨wr.heap.size, 2, none⟩ = some (.string ck) := by rw [hwa]; simp
        have hza : wr.heap.size < wa.heap.size := by rw [hwa]; simp
        rw [← hwa]
        have HBA := Lib.hid hba
        have HO1 := Lib.hid (owns_below HOwn.out hba)
        have HW1 := Lib.hid (HW.out.trans (hba.mono hw2))
        clear hwa hba
        have hS0 : wa.drew.cell? ⟨wr.heap.size, 0, none⟩ = some (.int .i64 cf) ∧ wa.drew.cell? ⟨wr.heap.size, 1, none⟩ = some (.int .i64 cl) ∧ wa.drew.cell? ⟨wr.heap.size, 2, none⟩ = some (.string ck) := ⟨by simpa using d0, by simpa using d1, by simpa using d2⟩
        clear d0 d1 d2 x0 x1 x2
        refine wp_region_till (fun W => W.cell? ⟨wr.heap.size, 0, none⟩ = some (.int .i64 cf) ∧ W.cell? ⟨wr.heap.size, 1, none⟩ = some (.int .i64 cl) ∧ W.cell? ⟨wr.heap.size, 2, none⟩ = some (.string ck)) 11 (by kernel_rfl) ?_
        refine wpTill_take (i := 0) (oi := ⟨some 15, .move (.tmp 3), _, _, _, none⟩) (v := u3) rfl (by kernel_rfl) (by kernel_rfl) (by kernel_rfl) (by kernel_rfl) (fun _ _ _ h => h) (.inl ⟨by rfl, fun W hW => by go_simp⟩) hS0 ?_
        try simp only [Act.put, List.setIfInBounds_toArray, List.set_cons_zero, List.set_cons_succ]
        refine wpTill_take (i := 1) (oi := ⟨some 16, .fieldAddr 34 (.tmp 5) 2, _, _, _, none⟩) (v := (.pointer (some ⟨wr.heap.size, 2, none⟩))) rfl (by kernel_rfl) (by kernel_rfl) (by kernel_rfl) (by kernel_rfl) (fun _ _ _ h => h) (.inl ⟨by rfl, fun W hW => by go_simp⟩) hS0 ?_
        try simp only [Act.put, List.setIfInBounds_toArray, List.set_cons_zero, List.set_cons_succ]
        refine wpTill_take (i := 2) (oi := ⟨some 17, .load 9 (.tmp 16), _, _, _, none⟩) (v := (.string ck)) rfl (by kernel_rfl) (by kernel_rfl) (by kernel_rfl) (by kernel_rfl) (fun _ _ _ h => h) (.inl ⟨by rfl, fun W hW => by have h0 := hW.2.2; go_simp⟩) hS0 ?_
        try simp only [Act.put, List.setIfInBounds_toArray, List.set_cons_zero, List.set_cons_succ]
        refine wpTill_take (i := 3) (oi := ⟨some 18, .fieldAddr 34 (.tmp 5) 0, _, _, _, none⟩) (v := (.pointer (some ⟨wr.heap.size, 0, none⟩))) rfl (by kernel_rfl) (by kernel_rfl) (by kernel_rfl) (by kernel_rfl) (fun _ _ _ h => h) (.inl ⟨by rfl, fun W hW => by go_simp⟩) hS0 ?_
        try simp only [Act.put, List.setIfInBounds_toArray, List.set_cons_zero, List.set_cons_succ]
        refine wpTill_take (i := 4) (oi := ⟨some 19, .load 3 (.tmp 18), _, _, _, none⟩) (v := (.int .i64 cf)) rfl (by kernel_rfl) (by kernel_rfl) (by kernel_rfl) (by kernel_rfl) (fun _ _ _ h => h) (.inl ⟨by rfl, fun W hW => by have h0 := hW.1; go_simp⟩) hS0 ?_
        try simp only [Act.put, List.setIfInBounds_toArray, List.set_cons_zero, List.set_cons_succ]
        refine wpTill_take (i := 5) (oi := ⟨some 20, .fieldAddr 34 (.tmp 5) 1, _, _, _, none⟩) (v := (.pointer (some ⟨wr.heap.size, 1, none⟩))) rfl (by kernel_rfl) (by kernel_rfl) (by kernel_rfl) (by kernel_rfl) (fun _ _ _ h => h) (.inl ⟨by rfl, fun W hW => by go_simp⟩) hS0 ?_
        try simp only [Act.put, List.setIfInBounds_toArray, List.set_cons_zero, List.set_cons_succ]
        refine wpTill_take (i := 6) (oi := ⟨some 21, .load 3 (.tmp 20), _, _, _, none⟩) (v := (.int .i64 cl)) rfl (by kernel_rfl) (by kernel_rfl) (by kernel_rfl) (by kernel_rfl) (fun _ _ _ h => h) (.inl ⟨by rfl, fun W hW => by have h0 := hW.2.1; go_simp⟩) hS0 ?_
        try simp only [Act.put, List.setIfInBounds_toArray, List.set_cons_zero, List.set_cons_succ]
        have hcat : ¬ 9223372036854775807 < ck.size + z.size := by omega
        refine wpTill_one (i := 7) (o := ⟨some 22, _, _, _, _, none⟩) (by kernel_rfl) rfl (fun K hK => ?_)
        refine step_call2 _ (by rfl) 59 (.tmp 19) (.tmp 21) 3 3 (by rfl) (enters_of Tryd.func59 (by kernel_rfl) rfl) (.int .i64 cf) (.int .i64 cl) (by rfl) (by rfl) ((HCL.out _ HW1.out.drew).mono ?_)
        rintro _ w4 ⟨rfl, hb4⟩
        refine ⟨_, rfl, ?_⟩
        have HB4 := Lib.hid hb4
        have hS4 : w4.cell? ⟨wr.heap.size, 0, none⟩ = some (.int .i64 cf) ∧ w4.cell? ⟨wr.heap.size, 1, none⟩ = some (.int .i64 cl) ∧ w4.cell? ⟨wr.heap.size, 2, none⟩ = some (.string ck) := ⟨(hb4.cell (p := ⟨wr.heap.size, 0, none⟩) (by simpa using hza)).trans hS0.1, (hb4.cell (p := ⟨wr.heap.size, 1, none⟩) (by simpa using hza)).trans hS0.2.1, (hb4.cell (p := ⟨wr.heap.size, 2, none⟩) (by simpa using hza)).trans hS0.2.2⟩
        have hz4 : wr.heap.size < w4.heap.size := Nat.lt_of_lt_of_le hza (by simpa using hb4.size)
        have HO4 := Lib.hid (owns_below (owns_below HO1.out ((Below.refl wa.heap.size wa).drew)) (hb4.mono (by simp)))
        have HW4 := Lib.hid (HW1.out.drew.trans (hb4.mono (by simpa using HW1.out.size)))
        clear hb4
        refine hK _ _ (fun _ => hS4) ?_
        clear hK K
        try simp only [Act.put, List.setIfInBounds_toArray, List.set_cons_zero, List.set_cons_succ]
        refine wpTill_one (i := 8) (o := ⟨some 23, _, _, _, _, none⟩) (by kernel_rfl) rfl (fun K hK => ?_)
        go_simp
        refine hK _ _ (fun _ => hS4) ?_
        clear hK K
        try simp only [Act.put, List.setIfInBounds_toArray, List.set_cons_zero, List.set_cons_succ]
        refine wpTill_one (i := 9) (o := ⟨some 24, _, _, _, _, none⟩) (by kernel_rfl) rfl (fun K hK => ?_)
        go_simp
        obtain ⟨wx, hwx⟩ : ∃ wx, wx = w4.alloc (.cells #[.string (ck ++ z)] 9) := ⟨_, rfl⟩
        have hbx : RowKit.Below w4.heap.size w4 wx := by rw [hwx]; exact (Below.refl _ _).alloc (Nat.le_refl _) _
        have hcx : wx.cell? ⟨w4.heap.size, 0, none⟩ = some (.string (ck ++ z)) := by rw [hwx]; simp [go_sem]
        have HOX := Lib.hid (owns_below HO4.out hbx)
        rw [← hwx]
        have HBX := Lib.hid hbx
        have HWX := Lib.hid (HW4.out.trans (hbx.mono HW4.out.size))
        have hSX : wx.cell? ⟨wr.heap.size, 0, none⟩ = some (.int .i64 cf) ∧ wx.cell? ⟨wr.heap.size, 1, none⟩ = some (.int .i64 cl) ∧ wx.cell? ⟨wr.heap.size, 2, none⟩ = some (.string ck) := ⟨(hbx.cell (p := ⟨wr.heap.size, 0, none⟩) hz4).trans hS4.1, (hbx.cell (p := ⟨wr.heap.size, 1, none⟩) hz4).trans hS4.2.1, (hbx.cell (p := ⟨wr.heap.size, 2, none⟩) hz4).trans hS4.2.2⟩
        have hzx : w.heap.size ≤ wx.heap.size := HWX.out.size
        refine hK _ _ (fun _ => hSX) ?_
        clear hK K hwx hbx
        try simp only [Act.put, List.setIfInBounds_toArray, List.set_cons_zero, List.set_cons_succ]
        refine wpTill_one (i := 10) (o := ⟨some 25, _, _, _, _, none⟩) (by kernel_rfl) rfl (fun K hK => ?_)
        refine step_append_ownT _ (by rfl) (.tmp 15) (.tmp 24) 87 (by rfl) w.heap.size 9 i0 (.string ⟨#[]⟩) 1 16 Tryd.underlying87 hi hi0 hi1 hi2 rfl (by decide) u3 k (strRowQ d k) (by rfl) HOX.out ⟨w4.heap.size, 0, none⟩ 1 1 [.string (ck ++ z)] (by rfl) rfl (fun j u hj => by match j, hj with | 0, hj => simp at hj; subst hj; simpa [Addr.add] using hcx) (fun u hu => by simp at hu; subst hu; rfl) (by unfold maxLen; omega) (by omega) hzx ?_
        intro v1 w5 hown5 hgrow5 _
        rw [← HKW.out, strRowQ_succ] at hown5
        have HO5 := Lib.hid hown5
        have hb5 : RowKit.Below w.heap.size w w5 := HWX.out.grown hgrow5 hzx (fun q hq => (HOX.out.lt q hq).1)
        have HW5 := Lib.hid hb5
        have hz5 := hb5.size
        have hSY : w5.cell? ⟨wr.heap.size, 0, none⟩ = some (.int .i64 cf) ∧ w5.cell? ⟨wr.heap.size, 1, none⟩ = some (.int .i64 cl) ∧ w5.cell? ⟨wr.heap.size, 2, none⟩ = some (.string ck) := by
          have hne : some wr.heap.size ≠ u3.ownBlock := fun e => by have := (HOwn.out.lt _ e.symm).2; omega
          exact ⟨hgrow5.cell hSX.1 hne, hgrow5.cell hSX.2.1 hne, hgrow5.cell hSX.2.2 hne⟩
        refine hK _ _ (fun _ => hSY) ?_
        clear hK K hown5 hgrow5 hb5
        try simp only [Act.put, List.setIfInBounds_toArray, List.set_cons_zero, List.set_cons_succ]
        refine wpTill_one (i := 11) (o := ⟨some 3, _, _, _, _, none⟩) (by kernel_rfl) rfl (fun K hK => ?_)
        go_simp
        refine hK _ _ (fun h => absurd (show (true : Bool) = false from h) (by decide)) ?_
        clear hK K
        refine wpTill_done (by kernel_rfl) ?_
        go_wp2
        go_roundw
        case rel => exact ⟨k + 1, by go_num, by omega, HO5.out, HW5.out, hz5⟩
        case measure => simp [intOf]; omega
      · have hke : k = d.size := by omega
        have HE2 := Lib.hid (show planF d = segQ d k by rw [HE.out, hke])
        have hj := Lib.hid (joinQ_any d k w.heap.size _ wr HOwn.out HF.out hd hk)
        have hkn : ¬ (k : Int) < (d.size : Int) := by omega
        clear hke
        go_wp2_with fail
        refine hj.out.mono ?_
        rintro e w2 ⟨rfl, hb⟩
        have HB := Lib.hid (HW.out.trans (hb.mono hw2))
        clear hb
        go_wp2
        go_ret
        exact ⟨retStr HE2.out.symm, HB.out⟩
theorem itoaF_pos8 (n : Int) : 0 < (itoaF n).size := by
  rw [itoaF, Lib.itoa]
  split
  · simp [ByteArray.size]
  · have := Lib.decDigits_length n.toNat
    have h2 := Lib.nDigits_pos n.toNat
    simp [ByteArray.size]
    omega
theorem rangeF_pos8 (lo hi : Int) : 0 < (rangeF lo hi).size := by
  unfold rangeF
  split
  · exact itoaF_pos8 lo
  · rw [sizeF_app, sizeF_app]
    have := itoaF_pos8 lo
    omega
theorem segQ_pos {d : Array CluD} : ∀ k, 0 < k → 0 < (segQ d k).size
  | 1, _ => by
    show 0 < (textQ d[0]!).size
    unfold textQ
    rw [sizeF_app]
    have := rangeF_pos8 d[0]!.first d[0]!.last
    omega
  | k + 2, _ => by
    show 0 < ((segQ d (k + 1) ++ spaceF) ++ textQ d[k + 1]!).size
    rw [sizeF_app, sizeF_app]
    have : spaceF.size = 1 := rfl
    omega

set_option maxRecDepth 100000 in
set_option maxHeartbeats 2000000 in
theorem specFmtP_any (b off cap : Nat) (d : Array CluD) (w : World) (hR : RowQ w b off d) (hf : ∀ j, j < d.size → FitQ d[j]!) (hd : d.size ≤ 1048576) :
    Calls Tryd.prog 35 #[.slice (some ⟨b, off, none⟩) d.size cap] w fun x w' => x = .returned (.string (planF d)) ∧ RowKit.Below w.heap.size w w' := by
  have HR := Lib.hid hR
  have HF := Lib.hid hf
  have HSZ := Lib.hid (fun k hk => segQ_size hf k hk)
  have hdi : (d.size : Int) ≤ 1048576 := by omega
  clear hR hf
  go_enter Tryd.func35, Tryd.ntmps35
  go_wp2_with fail
  go_loopw [3, 8] (fun o i wr => ∃ k : Nat, i = .int .i64 k ∧ k ≤ d.size ∧ o = .string (segQ d k) ∧ Hid (RowKit.Below w.heap.size w wr) ∧ w.heap.size ≤ wr.heap.size) (fun _ i _ => d.size - (intOf i).toNat)
  case atStart => exact ⟨0, rfl, Nat.zero_le _, rfl, Below.refl _ _, Nat.le_refl _⟩
  case round =>
    obtain ⟨k, rfl, hk, rfl, HW, hw2⟩ := hrel
    have hsz := HSZ.out k hk
    by_cases hlt : k < d.size
    · have hx := HR.out.below HW.out
      have x0 := hx.first k hlt
      have x1 := hx.last k hlt
      have x2 := hx.kind k hlt
      have hcase := HF.out k hlt
      clear hx
      have HNX := Lib.hid (show segQ d (k + 1) = (if 0 < k then segQ d k ++ spaceF else segQ d k) ++ textQ d[k]! by
        cases k with
        | zero => apply ByteArray.ext; simp [segQ, ByteArray.data_append]
        | succ k => rw [if_pos (by omega)]; rfl)
      obtain ⟨x, hxe⟩ : ∃ x, x = d[k]! := ⟨_, rfl⟩
      rw [← hxe] at x0 x1 x2 hcase HNX
      obtain ⟨l0, l1, g0, g1, tg⟩ := hcase
      have s1 := rangeF_size l0 l1 g0 g1
      have i1 := Lib.hid (fun W => l1RangeF_any x.first x.last W l0 l1 g0 g1)
      have HT := Lib.hid (show textQ x = x.kind ++ rangeF x.first x.last from rfl)
      clear hxe l0 l1 g0 g1
      obtain ⟨lo, hi, tgt⟩ := x
      simp only at *
      obtain ⟨z1, hz1⟩ : ∃ z, z = rangeF lo hi := ⟨_, rfl⟩
      rw [← hz1] at i1 s1 HT
      obtain ⟨S, hS⟩ : ∃ S, S = segQ d k := ⟨_, rfl⟩
      rw [← hS] at hsz HNX ⊢
      have hki : (k : Int) < (d.size : Int) := by omega
      have hSs : S.size ≤ 1100000000000 := by omega
      clear hz1 hS hsz
      obtain ⟨wb, hwb⟩ : ∃ wb, wb = wr.alloc (.cells #[.int .i64 lo, .int .i64 hi, .string tgt] 34) := ⟨_, rfl⟩
      have hbb : RowKit.Below wr.heap.size wr wb := by rw [hwb]; exact (Below.refl _ _).alloc (Nat.le_refl _) _
      have d0 : wb.cell? ⟨wr.heap.size, 0, none⟩ = some (.int .i64 lo) := by rw [hwb]; simp
      have d1 : wb.cell? ⟨wr.heap.size, 1, none⟩ = some (.int .i64 hi) := by rw [hwb]; simp
      have d2 : wb.cell? ⟨wr.heap.size, 2, none⟩ = some (.string tgt) := by rw [hwb]; simp
      have hzb : wr.heap.size < wb.heap.size := by rw [hwb]; simp
      have q0 := fun p : BW wb => p.cell (a := ⟨wr.heap.size, 0, none⟩) hzb d0
      have q1 := fun p : BW wb => p.cell (a := ⟨wr.heap.size, 1, none⟩) hzb d1
      have q2 := fun p : BW wb => p.cell (a := ⟨wr.heap.size, 2, none⟩) hzb d2
      have HWB := Lib.hid hwb
      have HBB := Lib.hid (HW.out.trans (hbb.mono hw2))
      clear hwb hbb d0 d1 d2
      rcases Nat.eq_zero_or_pos k with h0 | h0
      · have HN2 := Lib.hid (HNX.out.trans (by rw [if_neg (by omega)]))
        have hk0 : ¬ (0 : Int) < (k : Int) := by omega
        clear HNX h0
        go_wp2_with fail
        rw [← HWB.out]
        refine wp_region_bw (by kernel_rfl) (by kernel_rfl) ?_
        repeat (go_big_quiet_step ((go_at_call 58; refine bw_of (i1.out _))))
        refine wpQuiet_nil ?_
        rintro _ ⟨p, rfl⟩
        have HP := Lib.hid (HBB.out.trans (p.h.mono HBB.out.size))
        have hzp := p.h.size
        go_wp2
        go_roundw
        case rel => exact ⟨k + 1, by go_num, by omega, by rw [HN2.out, HT.out]; simp only [ByteArray.append_assoc]; try rfl, HP.out, HP.out.size⟩
        case measure => simp [intOf]; omega
      · have HN2 := Lib.hid (HNX.out.trans (by rw [if_pos h0]))
        have hk0 : (0 : Int) < (k : Int) := by omega
        clear HNX h0
        go_wp2_with fail
        rw [← HWB.out]
        refine wp_region_bw (by kernel_rfl) (by kernel_rfl) ?_
        repeat (go_big_quiet_step ((go_at_call 58; refine bw_of (i1.out _))))
        refine wpQuiet_nil ?_
        rintro _ ⟨p, rfl⟩
        have HP := Lib.hid (HBB.out.trans (p.h.mono HBB.out.size))
        have hzp := p.h.size
        go_wp2
        go_roundw
        case rel => exact ⟨k + 1, by go_num, by omega, by rw [HN2.out, HT.out]; simp only [ByteArray.append_assoc]; try rfl, HP.out, HP.out.size⟩
        case measure => simp [intOf]; omega
    · have hke : k = d.size := by omega
      have hkn : ¬ (k : Int) < (d.size : Int) := by omega
      rcases Nat.eq_zero_or_pos k with h0 | h0
      · have HE := Lib.hid (show planF d = dashF by rw [planF, if_pos (by omega)])
        have hs0 : segQ d k = ⟨#[]⟩ := by rw [h0]; rfl
        rw [hs0]
        clear hs0 h0 hke hsz
        go_wp2
        go_ret
        exact ⟨retStr (by rw [HE.out]; rfl), HW.out⟩
      · have HE := Lib.hid (show planF d = segQ d k by rw [planF, if_neg (by omega), hke])
        have hp := segQ_pos (d := d) k h0
        obtain ⟨S, hS⟩ : ∃ S, S = segQ d k := ⟨_, rfl⟩
        rw [← hS] at HE hp ⊢
        have hne : (S.toList == []) = false := by
          rw [ByteArray.toList_eq]
          cases hh : S.data.toList with
          | nil => have h2 : S.size = 0 := by { show S.data.size = 0; rw [← Array.length_toList, hh]; rfl }
                   omega
          | cons a l => rfl
        clear hS h0 hke hsz
        go_wp2
        go_ret
        exact ⟨retStr HE.out.symm, HW.out⟩
end Go.Proofs.YtjpcpiffffobcaaDoor
