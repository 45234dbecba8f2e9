
/- What a tree says, the program: where a key goes; what joining all sides comes to. -/
import Derived.Test.YtkiaafpggjojiaaDoorKsTreeE
import Derived.Test.YtkiaafpggjojiaaDoorKsQuiet
namespace Go.Proofs.YtkiaafpggjojiaaDoor
open Go.RowKit Go.Shelf

theorem ta_tt (v : Value) (W : World) : Sem.run Tryd.prog (Instr.typeAssert (.iface 67 v) 61 67 true) W = .ok (.tuple #[v, .bool true]) W := by kernel_rfl
theorem ta_tc (v : Value) (W : World) : Sem.run Tryd.prog (Instr.typeAssert (.iface 67 v) 61 109 true) W = .ok (.tuple #[.pointer none, .bool false]) W := by kernel_rfl
theorem ta_ct (v : Value) (W : World) : Sem.run Tryd.prog (Instr.typeAssert (.iface 109 v) 61 67 true) W = .ok (.tuple #[.int .u8 0, .bool false]) W := by kernel_rfl
theorem ta_cc (v : Value) (W : World) : Sem.run Tryd.prog (Instr.typeAssert (.iface 109 v) 61 109 true) W = .ok (.tuple #[v, .bool true]) W := by kernel_rfl
theorem cells_cmp {w : World} {B : Nat} {k : Int} {x y : Value} (h : w.heap[B]? = some (.cells #[.int .i64 k, x, y] 138 (0, 0))) :
    w.cell? ⟨B, 0, none⟩ = some (.int .i64 k) ∧ w.cell? ⟨B, 1, none⟩ = some x ∧ w.cell? ⟨B, 2, none⟩ = some y := by simp [World.cell?, h]
set_option maxHeartbeats 400000 in
theorem side_any (key k : Int) (B : Nat) (T1 T2 : TypeId) (u1 u2 : Value) (w : World) (h : w.heap[B]? = some (.cells #[.int .i64 k, .iface T1 u1, .iface T2 u2] 138 (0, 0))) :
    Calls Tryd.prog 89 #[.pointer (some ⟨B, 0, none⟩), .int .i64 key] w fun x w' => x = .returned (if key < k then .iface T1 u1 else .iface T2 u2) ∧ w' = w := by
  obtain ⟨c0, c1, c2⟩ := cells_cmp h
  by_cases hk : key < k
  · rw [if_pos hk]
    go_enter Tryd.func89, Tryd.ntmps89
    go_wp2
    go_ret
    exact ⟨rfl, rfl⟩
  · rw [if_neg hk]
    go_enter Tryd.func89, Tryd.ntmps89
    go_wp2
    go_ret
    exact ⟨rfl, rfl⟩

set_option maxRecDepth 100000 in
set_option maxHeartbeats 1000000 in
theorem find_any (key : Int) (t : TreeD) (hc : countT t ≤ 1000000) (b : Nat) (w : World) (v : Value) (h : TreeAt b w t v) :
    Calls Tryd.prog 52 #[v, .int .i64 key] w fun x w' => x = .returned (.tuple #[.int .u8 (trT t key).1.toNat, .int .i64 (trT t key).2]) ∧ w' = w := by
  obtain ⟨T, u, rfl⟩ := h.iface
  have hle : (trT t key).2 ≤ 1000000 := by have := run_depth t key; have := (count_text t).2; omega
  obtain ⟨out, hout⟩ : ∃ out, out = (trT t key).1 := ⟨_, rfl⟩
  obtain ⟨tot, htot⟩ : ∃ tot, tot = (trT t key).2 := ⟨_, rfl⟩
  rw [← hout, ← htot]
  rw [← htot] at hle
  have H := Lib.hid h
  have HO := Lib.hid hout
  have HT := Lib.hid htot
  clear h hout htot hc
  go_enter Tryd.func52, Tryd.ntmps52
  have h1 := ta_tt
  have h2 := ta_tc
  have h3 := ta_ct
  have h4 := ta_cc
  go_wp2_with fail
  go_loopw [6, 7] (fun av st wr => ∃ (t' : TreeD) (T : TypeId) (u : Value) (j : Nat), av = .iface T u ∧ st = .int .i64 j ∧ Hid (TreeAt b w t' (.iface T u)) ∧ Hid (out = (trT t' key).1) ∧ Hid (tot = j + (trT t' key).2) ∧ j ≤ tot ∧ wr = w) (fun _ st _ => tot + 1 - (RowKit.intOf st).toNat)
  case atStart => exact ⟨t, T, u, 0, rfl, rfl, H.out, HO.out, Lib.hid (by rw [HT.out]; omega), Nat.zero_le _, rfl⟩
  case round =>
    obtain ⟨t', T', u', j, rfl, rfl, HN', HO', HT', hj, rfl⟩ := hrel
    cases t' with
    | leaf c2 =>
      have e := HN'.out
      simp only [TreeAt, Value.iface.injEq] at e
      obtain ⟨rfl, rfl⟩ := e
      go_wp2
      go_ret2
      refine ⟨?_, rfl⟩
      rw [HO'.out, HT'.out]
      simp [trT]
    | cmp kk l r =>
      obtain ⟨B, x, y, e2, hB, hh, hl, hr⟩ := HN'.out
      cases e2
      obtain ⟨T1, u1, rfl⟩ := hl.iface
      obtain ⟨T2, u2, rfl⟩ := hr.iface
      have HS := Lib.hid (side_any key kk B T1 T2 u1 u2 wr hh)
      have HL := Lib.hid hl
      have HR := Lib.hid hr
      have hji : (j : Int) ≤ 1000000 := by omega
      clear hl hr hh
      by_cases hk : key < kk
      · rw [if_pos hk] at HS
        have hT2 : tot = (j + 1) + (trT l key).2 := by have := HT'.out; simp only [trT, if_pos hk] at this; omega
        have hO2 : out = (trT l key).1 := by have := HO'.out; simpa only [trT, if_pos hk] using this
        have HT2 := Lib.hid hT2
        have HO2 := Lib.hid hO2
        have hj2 : j + 1 ≤ tot := by omega
        clear hT2 hO2
        go_wp2_with (go_at_call 89; refine HS.out.mono ?_; rintro e w' ⟨rfl, rfl⟩)
        go_roundw
        case rel => exact ⟨l, T1, u1, j + 1, rfl, by go_num, HL.out, HO2.out, HT2.out, hj2, by first | rfl | trivial⟩
        case measure => simp [RowKit.intOf]; omega
      · rw [if_neg hk] at HS
        have hT2 : tot = (j + 1) + (trT r key).2 := by have := HT'.out; simp only [trT, if_neg hk] at this; omega
        have hO2 : out = (trT r key).1 := by have := HO'.out; simpa only [trT, if_neg hk] using this
        have HT2 := Lib.hid hT2
        have HO2 := Lib.hid hO2
        have hj2 : j + 1 ≤ tot := by omega
        clear hT2 hO2
        go_wp2_with (go_at_call 89; refine HS.out.mono ?_; rintro e w' ⟨rfl, rfl⟩)
        go_roundw
        case rel => exact ⟨r, T2, u2, j + 1, rfl, by go_num, HR.out, HO2.out, HT2.out, hj2, by first | rfl | trivial⟩
        case measure => simp [RowKit.intOf]; omega

/-! joining -/
def joinT (J : Int → Int → Int) : TreeD → Int
  | .leaf _ => 0
  | .cmp _ l r => J (joinT J l) (joinT J r)
set_option maxRecDepth 100000 in
set_option maxHeartbeats 1000000 in
theorem measure_any (J : Int → Int → Int) (fj : FuncId) (ef : ∀ args W, (callFunc fj args).run Tryd.prog W = .ok (.enter fj args) W) (hJ : ∀ l r : TreeD, countT l + countT r ≤ 1000000 → ∀ W, Calls Tryd.prog fj #[.int .i64 (joinT J l), .int .i64 (joinT J r)] W fun x W' => x = .returned (.int .i64 (J (joinT J l) (joinT J r))) ∧ Below W.heap.size W W') :
    ∀ (t : TreeD), countT t ≤ 1000000 → ∀ (b : Nat) (w : World) (v : Value), TreeAt b w t v →
      Calls Tryd.prog 90 #[v, .func (.func fj) #[] #[]] w fun x w' => x = .returned (.int .i64 (joinT J t)) ∧ Below w.heap.size w w'
  | .leaf c, _, b, w, _, rfl => by
    have h1 := ta_tt
    have h2 := ta_tc
    go_enter Tryd.func90, Tryd.ntmps90
    go_wp2
    go_ret
    exact ⟨rfl, Below.refl _ _⟩
  | .cmp k l r, hc, b, w, _, ⟨B, x, y, rfl, hB, hh, hl, hr⟩ => by
    obtain ⟨T1, u1, rfl⟩ := hl.iface
    obtain ⟨T2, u2, rfl⟩ := hr.iface
    obtain ⟨c0, c1, c2⟩ := cells_cmp hh
    have hBl : B < w.heap.size := (Array.getElem?_eq_some_iff.1 hh).1
    have f1 := fun p : BW w => p.cell (a := ⟨B, 1, none⟩) hBl c1
    have f2 := fun p : BW w => p.cell (a := ⟨B, 2, none⟩) hBl c2
    simp only [countT] at hc
    have QL := Lib.hid (fun p : BW w => measure_any J fj ef hJ l (by omega) b p.W (.iface T1 u1) (hl.below p.h))
    have QR := Lib.hid (fun p : BW w => measure_any J fj ef hJ r (by omega) b p.W (.iface T2 u2) (hr.below p.h))
    have HJ := Lib.hid (hJ l r (by omega))
    have HE := Lib.hid (show joinT J (.cmp k l r) = J (joinT J l) (joinT J r) from rfl)
    obtain ⟨jt, hjt⟩ : ∃ jt, jt = joinT J (.cmp k l r) := ⟨_, rfl⟩
    obtain ⟨jl, hjl⟩ : ∃ jl, jl = joinT J l := ⟨_, rfl⟩
    obtain ⟨jr, hjr⟩ : ∃ jr, jr = joinT J r := ⟨_, rfl⟩
    rw [← hjt] at HE ⊢
    rw [← hjl] at QL HJ HE
    rw [← hjr] at QR HJ HE
    obtain ⟨jj, hjj⟩ : ∃ jj, jj = J jl jr := ⟨_, rfl⟩
    rw [← hjj] at HJ HE
    have h3 := ta_ct
    have h4 := ta_cc
    clear hc hl hr hh c0 c1 c2 hjt hjl hjr hjj hJ
    go_enter Tryd.func90, Tryd.ntmps90
    go_wp2_with fail
    refine wp_region_bw (by kernel_rfl) (by kernel_rfl) ?_
    repeat (go_big_quiet_step ((first | (go_at_call 90; (with_reducible refine bw_of (QL.out _))) | (go_at_call 90; (with_reducible refine bw_of (QR.out _))) | (go_at_fn fj; refine bw_of (HJ.out _)))))
    refine wpQuiet_nil ?_
    rintro _ ⟨p, rfl⟩
    go_wp2
    go_ret
    exact ⟨by rw [HE.out]; rfl, p.h⟩
end Go.Proofs.YtkiaafpggjojiaaDoor
