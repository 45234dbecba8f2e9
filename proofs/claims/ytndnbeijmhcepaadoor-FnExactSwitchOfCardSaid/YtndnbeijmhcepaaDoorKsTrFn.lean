
/- TreeValid of the program and the model, and its law. · What a tree says, the model: how many comparisons it has, how deep it is, where a key goes. · What a tree says, the program: where a key goes; what joining all sides comes to. · TreeDepth, CountNodes and RunTree of the program and the model. · RunTree of the program and the model. · The law on TreeValid, walked: it returns true whatever the text. -/
import Derived.Test.YtndnbeijmhcepaaDoorKsRdI
import Derived.Test.YtndnbeijmhcepaaDoorKsTreeK
import Derived.Test.YtndnbeijmhcepaaDoorKsQuiet
namespace Go.Proofs.YtndnbeijmhcepaaDoor
open Go.RowKit Go.Lib Go.Shelf

end Go.Proofs.YtndnbeijmhcepaaDoor

namespace Go.Proofs.YtndnbeijmhcepaaDoor
open Go.RowKit Go.Lib Go.Shelf

def nodeV (tg : ByteArray) (k : Int) (sd : Value) : Value := .agg #[.string tg, .int .i64 k, sd]
theorem NodeIs.below {b : Nat} {w w' : World} (hb : Below w.heap.size w w') {t : TreeD} {tg : ByteArray} {k : Int} {sd : Value} (h : NodeIs b w t tg k sd) : NodeIs b w' t tg k sd := h.kept (grown_of_belowT hb none) (fun _ e => by cases e)

/-! how deep a tree is -/
def dTo : TreeD → Nat → Nat
  | .leaf _, _ => 0
  | .cmp _ _ _, 0 => 0
  | .cmp _ l _, 1 => depthT l + 1
  | .cmp _ l r, _ + 2 => max (depthT l) (depthT r) + 1
/-! where a key goes -/
theorem below_setX {w W : World} (h : Below w.heap.size w W) (o : Nat) (v : Value) : Below w.heap.size w (W.setCell ⟨w.heap.size, o, none⟩ v) := by
  have g := grown_setCell W w.heap.size o v
  exact ⟨g.os.trans h.os, g.tape.trans h.tape, g.output.trans h.output, Nat.le_trans h.size g.size, fun k hk => (g.block k (Nat.lt_of_lt_of_le hk h.size) (by simp; omega)).trans (h.block k hk)⟩
theorem ret2r {a b : ByteArray} {n m : Int} (h1 : a = b) (h2 : n = m) : Ending.returned (.tuple #[.string a, .int .i64 n]) = .returned (.tuple #[.string b, .int .i64 m]) := by rw [h1, h2]
set_option maxRecDepth 100000 in
set_option maxHeartbeats 1000000 in
theorem run_any (key : Int) (t : TreeD) (hc : countT t ≤ 1000000) (b : Nat) (w : World) (tg : ByteArray) (k : Int) (sd : Value) (h : NodeIs b w t tg k sd) :
    Calls Tryd.prog 42 #[.agg #[.string tg, .int .i64 k, sd], .int .i64 key] w fun x w' => x = .returned (.tuple #[.string ⟨#[(trT t key).1]⟩, .int .i64 (trT t key).2]) ∧ Below w.heap.size w w' := by
  obtain ⟨a, n, c, rfl⟩ := h.slice
  have hle : (trT t key).2 ≤ 1000000 := by have := run_depth t key; have := (count_text t).2; omega
  obtain ⟨out, hout⟩ : ∃ out, out = (trT t key).1 := ⟨_, rfl⟩
  obtain ⟨tot, htot⟩ : ∃ tot, tot = (trT t key).2 := ⟨_, rfl⟩
  rw [← hout, ← htot]
  rw [← htot] at hle
  obtain ⟨wa, hwa⟩ : ∃ wa, wa = w.alloc (.cells #[.string tg, .int .i64 k, .slice a n c] 59) := ⟨_, rfl⟩
  have hba : Below w.heap.size w wa := by rw [hwa]; exact (Below.refl _ _).alloc (Nat.le_refl _) _
  have X : Box3 wa w.heap.size 59 (.string tg) (.int .i64 k) (.slice a n c) := by rw [hwa]; exact Box3.new _ _ _ _ _
  have H := Lib.hid h
  have HX := Lib.hid X
  have HBA := Lib.hid hba
  have HWA := Lib.hid hwa
  have HO := Lib.hid hout
  have HT := Lib.hid htot
  clear h X hba hwa hout htot hc
  go_enter Tryd.func42, Tryd.ntmps42
  go_wp2_with fail
  rw [← HWA.out]
  have hx : w.heap.size < wa.heap.size := HX.out.lt
  go_loopw [6] (fun st wr => ∃ (t' : TreeD) (tg' : ByteArray) (k' : Int) (a' : Option Addr) (n' c' j : Nat), st = .int .i64 j ∧ Hid (NodeIs b w t' tg' k' (.slice a' n' c')) ∧ Hid (Box3 wr w.heap.size 59 (.string tg') (.int .i64 k') (.slice a' n' c')) ∧ Hid (Below w.heap.size w wr) ∧ Hid (out = (trT t' key).1) ∧ Hid (tot = j + (trT t' key).2) ∧ j ≤ tot) (fun st _ => tot + 1 - (RowKit.intOf st).toNat)
  case atStart => exact ⟨t, tg, k, a, n, c, 0, rfl, H.out, HX.out, HBA.out, HO.out, Lib.hid (by rw [HT.out]; omega), Nat.zero_le _⟩
  case round =>
    obtain ⟨t', tg', k', a', n', c', j, rfl, HN', HX', HB', HO', HT', hj⟩ := hrel
    have x0 := HX'.out.c0
    have x1 := HX'.out.c1
    have x2 := HX'.out.c2
    have f0 := HX'.out.z 0
    have f1 := HX'.out.z 1
    have f2 := HX'.out.z 2
    cases t' with
    | leaf c2 =>
      obtain ⟨e1, a2, cap2, e2⟩ := HN'.out
      cases e2
      go_wp2
      go_ret2
      refine ⟨ret2r (by rw [HO'.out]; rfl) (by rw [HT'.out]; simp [trT]), HB'.out⟩
    | cmp kk l r =>
      obtain ⟨ek, B, cap, tl, kl, sl, tr, kr, sr, e2, hB, hlt, hcells, hl, hr⟩ := HN'.out
      cases e2
      subst ek
      obtain ⟨al, nl, cl, rfl⟩ := hl.slice
      obtain ⟨ar, nr, cr, rfl⟩ := hr.slice
      obtain ⟨h0, h1, h2, h3, h4, h5⟩ := hcells
      have hBX : ¬ B = w.heap.size := by omega
      have y0 := (HB'.out.cell (p := ⟨B, 0, none⟩) hlt).trans h0
      have y1 := (HB'.out.cell (p := ⟨B, 1, none⟩) hlt).trans h1
      have y2 := (HB'.out.cell (p := ⟨B, 2, none⟩) hlt).trans h2
      have y3 := (HB'.out.cell (p := ⟨B, 3, none⟩) hlt).trans h3
      have y4 := (HB'.out.cell (p := ⟨B, 4, none⟩) hlt).trans h4
      have y5 := (HB'.out.cell (p := ⟨B, 5, none⟩) hlt).trans h5
      have HL := Lib.hid hl
      have HR := Lib.hid hr
      have hji : (j : Int) ≤ 1000000 := by omega
      clear h0 h1 h2 h3 h4 h5 hl hr
      by_cases hk : key < k'
      · have hT2 : tot = (j + 1) + (trT l key).2 := by have := HT'.out; simp only [trT, if_pos hk] at this; omega
        have hO2 : out = (trT l key).1 := by have := HO'.out; simpa only [trT, if_pos hk] using this
        have HT2 := Lib.hid hT2
        have HO2 := Lib.hid hO2
        have hj2 : j + 1 ≤ tot := by omega
        clear hT2 hO2
        go_wp2_with fail
        go_roundw
        case rel => exact ⟨l, tl, kl, al, nl, cl, j + 1, by go_num, HL.out, ((HX'.out.set0 _).set1 _).set2 _, below_setX (below_setX (below_setX HB'.out 0 _) 1 _) 2 _, HO2.out, HT2.out, hj2⟩
        case measure => simp [RowKit.intOf]; omega
      · have hT2 : tot = (j + 1) + (trT r key).2 := by have := HT'.out; simp only [trT, if_neg hk] at this; omega
        have hO2 : out = (trT r key).1 := by have := HO'.out; simpa only [trT, if_neg hk] using this
        have HT2 := Lib.hid hT2
        have HO2 := Lib.hid hO2
        have hj2 : j + 1 ≤ tot := by omega
        clear hT2 hO2
        go_wp2_with fail
        go_roundw
        case rel => exact ⟨r, tr, kr, ar, nr, cr, j + 1, by go_num, HR.out, ((HX'.out.set0 _).set1 _).set2 _, below_setX (below_setX (below_setX HB'.out 0 _) 1 _) 2 _, HO2.out, HT2.out, hj2⟩
        case measure => simp [RowKit.intOf]; omega
end Go.Proofs.YtndnbeijmhcepaaDoor

namespace Go.Proofs.YtndnbeijmhcepaaDoor
open Go.RowKit Go.Shelf

theorem ta_tt (v : Value) (W : World) : Sem.run Tryd.prog (Instr.typeAssert (.iface 77 v) 69 77 true) W = .ok (.tuple #[v, .bool true]) W := by kernel_rfl
theorem ta_tc (v : Value) (W : World) : Sem.run Tryd.prog (Instr.typeAssert (.iface 77 v) 69 115 true) W = .ok (.tuple #[.pointer none, .bool false]) W := by kernel_rfl
theorem ta_ct (v : Value) (W : World) : Sem.run Tryd.prog (Instr.typeAssert (.iface 115 v) 69 77 true) W = .ok (.tuple #[.int .u8 0, .bool false]) W := by kernel_rfl
theorem ta_cc (v : Value) (W : World) : Sem.run Tryd.prog (Instr.typeAssert (.iface 115 v) 69 115 true) W = .ok (.tuple #[v, .bool true]) W := by kernel_rfl
theorem cells_cmp {w : World} {B : Nat} {k : Int} {x y : Value} (h : w.heap[B]? = some (.cells #[.int .i64 k, x, y] 117 (0, 0))) :
    w.cell? ⟨B, 0, none⟩ = some (.int .i64 k) ∧ w.cell? ⟨B, 1, none⟩ = some x ∧ w.cell? ⟨B, 2, none⟩ = some y := by simp [World.cell?, h]
set_option maxHeartbeats 400000 in
theorem side_any (key k : Int) (B : Nat) (T1 T2 : TypeId) (u1 u2 : Value) (w : World) (h : w.heap[B]? = some (.cells #[.int .i64 k, .iface T1 u1, .iface T2 u2] 117 (0, 0))) :
    Calls Tryd.prog 84 #[.pointer (some ⟨B, 0, none⟩), .int .i64 key] w fun x w' => x = .returned (if key < k then .iface T1 u1 else .iface T2 u2) ∧ w' = w := by
  obtain ⟨c0, c1, c2⟩ := cells_cmp h
  by_cases hk : key < k
  · rw [if_pos hk]
    go_enter Tryd.func84, Tryd.ntmps84
    go_wp2
    go_ret
    exact ⟨rfl, rfl⟩
  · rw [if_neg hk]
    go_enter Tryd.func84, Tryd.ntmps84
    go_wp2
    go_ret
    exact ⟨rfl, rfl⟩

set_option maxRecDepth 100000 in
set_option maxHeartbeats 1000000 in
theorem find_any (key : Int) (t : TreeD) (hc : countT t ≤ 1000000) (b : Nat) (w : World) (v : Value) (h : TreeAt b w t v) :
    Calls Tryd.prog 66 #[v, .int .i64 key] w fun x w' => x = .returned (.tuple #[.int .u8 (trT t key).1.toNat, .int .i64 (trT t key).2]) ∧ w' = w := by
  obtain ⟨T, u, rfl⟩ := h.iface
  have hle : (trT t key).2 ≤ 1000000 := by have := run_depth t key; have := (count_text t).2; omega
  obtain ⟨out, hout⟩ : ∃ out, out = (trT t key).1 := ⟨_, rfl⟩
  obtain ⟨tot, htot⟩ : ∃ tot, tot = (trT t key).2 := ⟨_, rfl⟩
  rw [← hout, ← htot]
  rw [← htot] at hle
  have H := Lib.hid h
  have HO := Lib.hid hout
  have HT := Lib.hid htot
  clear h hout htot hc
  go_enter Tryd.func66, Tryd.ntmps66
  have h1 := ta_tt
  have h2 := ta_tc
  have h3 := ta_ct
  have h4 := ta_cc
  go_wp2_with fail
  go_loopw [6, 7] (fun av st wr => ∃ (t' : TreeD) (T : TypeId) (u : Value) (j : Nat), av = .iface T u ∧ st = .int .i64 j ∧ Hid (TreeAt b w t' (.iface T u)) ∧ Hid (out = (trT t' key).1) ∧ Hid (tot = j + (trT t' key).2) ∧ j ≤ tot ∧ wr = w) (fun _ st _ => tot + 1 - (RowKit.intOf st).toNat)
  case atStart => exact ⟨t, T, u, 0, rfl, rfl, H.out, HO.out, Lib.hid (by rw [HT.out]; omega), Nat.zero_le _, rfl⟩
  case round =>
    obtain ⟨t', T', u', j, rfl, rfl, HN', HO', HT', hj, rfl⟩ := hrel
    cases t' with
    | leaf c2 =>
      have e := HN'.out
      simp only [TreeAt, Value.iface.injEq] at e
      obtain ⟨rfl, rfl⟩ := e
      go_wp2
      go_ret2
      refine ⟨?_, rfl⟩
      rw [HO'.out, HT'.out]
      simp [trT]
    | cmp kk l r =>
      obtain ⟨B, x, y, e2, hB, hh, hl, hr⟩ := HN'.out
      cases e2
      obtain ⟨T1, u1, rfl⟩ := hl.iface
      obtain ⟨T2, u2, rfl⟩ := hr.iface
      have HS := Lib.hid (side_any key kk B T1 T2 u1 u2 wr hh)
      have HL := Lib.hid hl
      have HR := Lib.hid hr
      have hji : (j : Int) ≤ 1000000 := by omega
      clear hl hr hh
      by_cases hk : key < kk
      · rw [if_pos hk] at HS
        have hT2 : tot = (j + 1) + (trT l key).2 := by have := HT'.out; simp only [trT, if_pos hk] at this; omega
        have hO2 : out = (trT l key).1 := by have := HO'.out; simpa only [trT, if_pos hk] using this
        have HT2 := Lib.hid hT2
        have HO2 := Lib.hid hO2
        have hj2 : j + 1 ≤ tot := by omega
        clear hT2 hO2
        go_wp2_with (go_at_call 84; refine HS.out.mono ?_; rintro e w' ⟨rfl, rfl⟩)
        go_roundw
        case rel => exact ⟨l, T1, u1, j + 1, rfl, by go_num, HL.out, HO2.out, HT2.out, hj2, by first | rfl | trivial⟩
        case measure => simp [RowKit.intOf]; omega
      · rw [if_neg hk] at HS
        have hT2 : tot = (j + 1) + (trT r key).2 := by have := HT'.out; simp only [trT, if_neg hk] at this; omega
        have hO2 : out = (trT r key).1 := by have := HO'.out; simpa only [trT, if_neg hk] using this
        have HT2 := Lib.hid hT2
        have HO2 := Lib.hid hO2
        have hj2 : j + 1 ≤ tot := by omega
        clear hT2 hO2
        go_wp2_with (go_at_call 84; refine HS.out.mono ?_; rintro e w' ⟨rfl, rfl⟩)
        go_roundw
        case rel => exact ⟨r, T2, u2, j + 1, rfl, by go_num, HR.out, HO2.out, HT2.out, hj2, by first | rfl | trivial⟩
        case measure => simp [RowKit.intOf]; omega

/-! joining -/
def joinT (J : Int → Int → Int) : TreeD → Int
  | .leaf _ => 0
  | .cmp _ l r => J (joinT J l) (joinT J r)
end Go.Proofs.YtndnbeijmhcepaaDoor

namespace Go.Proofs.YtndnbeijmhcepaaDoor
open Go.RowKit Go.Shelf

theorem treeS_count {s : List UInt8} {t : TreeD} (h : treeS s = some t) : countT t ≤ 200 := by
  obtain ⟨_, e, hl⟩ := treeS_iff.1 h
  have := (count_text t).1
  rw [e] at this
  omega
def ansI (D : TreeD → Nat) (o : Option TreeD) : Int := match o with | none => -1 | some t => (D t : Int)
theorem join_depth (t : TreeD) : joinT (fun a b => max a b + 1) t = (depthT t : Int) := by
  induction t with
  | leaf c => rfl
  | cmp k l r h1 h2 => simp only [joinT, h1, h2, depthT]; omega
theorem join_count (t : TreeD) : joinT (fun a b => a + b + 1) t = (countT t : Int) := by
  induction t with
  | leaf c => rfl
  | cmp k l r h1 h2 => simp only [joinT, h1, h2, countT]; omega

end Go.Proofs.YtndnbeijmhcepaaDoor

namespace Go.Proofs.YtndnbeijmhcepaaDoor
open Go.RowKit Go.Shelf

def trS (o : Option TreeD) (key : Int) : ByteArray := match o with | none => ⟨#[]⟩ | some t => if keyB key = true then ⟨#[(trT t key).1]⟩ else ⟨#[]⟩
def trN (o : Option TreeD) (key : Int) : Int := match o with | none => 0 | some t => if keyB key = true then ((trT t key).2 : Int) else 0
def trB (o : Option TreeD) (key : Int) : Bool := o.isSome && keyB key
theorem ret3r {a b : ByteArray} {n m : Int} {p q : Bool} (h1 : a = b) (h2 : n = m) (h3 : p = q) : Ending.returned (.tuple #[.string a, .int .i64 n, .bool p]) = .returned (.tuple #[.string b, .int .i64 m, .bool q]) := by rw [h1, h2, h3]
end Go.Proofs.YtndnbeijmhcepaaDoor

namespace Go.Proofs.YtndnbeijmhcepaaDoor
open Go.RowKit Go.Lib Go.Shelf

theorem VarsAt.below {w w' : World} (h : VarsAt w) (hb : Below w.heap.size w w') : VarsAt w' := h.keptN (grown_of_belowT hb none)
end Go.Proofs.YtndnbeijmhcepaaDoor
