
/- The laws' marks of a switch: markText, markCaseS, markSwitch; a copy of an argument that can be written. -/
import Derived.Test.YtmhloojnekjfhaaDoorKsCopy
import Derived.Test.YtmhloojnekjfhaaDoorKsQuiet
namespace Go.Proofs.YtmhloojnekjfhaaDoor
open Go.RowKit Go.Shelf Go.Lib Go.Sort

theorem retIMT {a b : Int} (h : a = b) : Ending.returned (.int .i64 a) = .returned (.int .i64 b) := by rw [h]

def decR (k : Nat) : ByteArray := if k = 0 then ⟨#[]⟩ else decR (k / 10) ++ ⟨#[UInt8.ofNat (48 + k % 10)]⟩
termination_by k
decreasing_by omega
theorem decR_zero : decR 0 = ⟨#[]⟩ := by rw [decR, if_pos rfl]
theorem decR_pos {k : Nat} (h : 0 < k) : decR k = decR (k / 10) ++ ⟨#[UInt8.ofNat (48 + k % 10)]⟩ := by rw [decR, if_neg (by omega)]
def markS (k : Int) : ByteArray := ⟨#[109]⟩ ++ decR k.toNat
theorem byteS (z : Int) (W : World) : Sem.run Tryd.prog (convert 22 9 (.slice (some ⟨W.heap.size, 0, none⟩) 1 1)) (W.alloc (.cells #[.int .u8 z] 5)) = .ok (.string ⟨#[UInt8.ofNat z.toNat]⟩) (W.alloc (.cells #[.int .u8 z] 5)) := by
  rw [run_convert_bytes_string _ _ _ _ _ _ _ Tryd.underlying22 Tryd.underlying5 Tryd.underlying9, run_bytesToString _ _ _ _ [z] (by go_simp)]
  rfl
theorem retT {a c : ByteArray} (h : a = c) : Ending.returned (.string a) = .returned (.string c) := by rw [h]

set_option maxRecDepth 100000 in
set_option maxHeartbeats 1000000 in
theorem markText_any (k : Nat) (h1 : 1 ≤ k) (h2 : k ≤ 99999999) (w : World) : Calls Tryd.prog 62 #[.int .i64 k] w fun x w' => x = .returned (.string (markS k)) ∧ RowKit.Below w.heap.size w w' := by
  have hconv := fun z W => byteS z W
  have H1 : (1 : Int) ≤ k := by omega
  have H2 : (k : Int) ≤ 99999999 := by omega
  have HK := Lib.hid (show markS (k : Int) = ⟨#[109]⟩ ++ decR k by unfold markS; rw [Int.toNat_natCast])
  go_enter Tryd.func62, Tryd.ntmps62
  go_wp2
  go_loopw [0, 3] (fun kv ov wr => ∃ (q j : Nat) (acc : ByteArray), kv = .int .i64 q ∧ ov = .string acc ∧ q ≤ 99999999 ∧ Hid (decR q ++ acc = decR k) ∧ Hid (q * 10 ^ j ≤ 99999999) ∧ acc.size ≤ j ∧ j ≤ 8 ∧ Hid (RowKit.Below w.heap.size w wr) ∧ w.heap.size ≤ wr.heap.size) (fun kv _ _ => (Lib.intOf kv).toNat)
  case atStart => exact ⟨k, 0, ⟨#[]⟩, rfl, rfl, h2, (by show decR k ++ _ = decR k; apply ByteArray.ext; simp [ByteArray.data_append]), (by show k * 10 ^ 0 ≤ _; omega), Nat.le_refl _, by omega, Below.refl _ _, Nat.le_refl _⟩
  case round =>
    obtain ⟨q, j, acc, rfl, rfl, hq, HE, HP, hj, hj8, HW, hw2⟩ := hrel
    by_cases h0 : q = 0
    · subst h0
      go_wp2
      go_ret
      refine ⟨retT ?_, HW.out⟩
      rw [HK.out, ← HE.out, decR_zero]
      apply ByteArray.ext
      simp [ByteArray.data_append]
    · have hq1 : (1 : Int) ≤ q := by omega
      have hq2 : (q : Int) ≤ 99999999 := by omega
      have hr0 : 0 ≤ (q : Int) % 10 := by omega
      have hr1 : (q : Int) % 10 ≤ 9 := by omega
      have hw : IntKind.u8.wrap (48 + (q : Int) % 10) = 48 + (q : Int) % 10 := by rw [IntKind.wrap]; simp [IntKind.signed, IntKind.bits]; omega
      have hj7 : j ≤ 7 := by
        rcases Nat.lt_or_ge j 8 with h | h
        · omega
        · have e : j = 8 := by omega
          have := HP.out
          rw [e] at this
          omega
      have HQ := Lib.hid h0
      clear h0
      go_wp2
      go_roundw
      case rel =>
        refine ⟨q / 10, j + 1, _, by congr 1, rfl, by omega, ?_, ?_, ?_, by omega, HW.out.alloc hw2 _, by simp; omega⟩
        · show _ = _
          rw [← HE.out, decR_pos (by have := HQ.out; omega : 0 < q), ByteArray.append_assoc]
          congr 2
          rw [UInt8.ofNat_add]
          rfl
        · show q / 10 * 10 ^ (j + 1) ≤ _
          have h3 := HP.out
          rw [Nat.pow_succ, Nat.mul_comm (10 ^ j) 10, ← Nat.mul_assoc]
          exact Nat.le_trans (Nat.mul_le_mul_right _ (Nat.div_mul_le_self q 10)) h3
        · rw [ByteArray.size_append]
          show 1 + _ ≤ _
          omega
      case measure => simp [Lib.intOf]; omega

/-! cells that are marked one behind the other -/
def markV (k : Nat) (t : Nat) : Value := if t % 4 = 2 then .string (markS ((k + t : Nat) : Int)) else .int .i64 ((k + t : Nat) : Int)
structure HotM (W : World) (g N k m : Nat) : Prop where
  lt : g < W.heap.size
  has : ∀ t, t < N → ∃ u, W.cell? ⟨g, t, none⟩ = some u
  cold : ∀ t, t < N → W.frozen? ⟨g, t, none⟩ = false
  marked : ∀ t, t < m → W.cell? ⟨g, t, none⟩ = some (markV k t)
theorem HotM.below {W W' : World} {g N k m : Nat} (h : HotM W g N k m) (hb : RowKit.Below W.heap.size W W') : HotM W' g N k m :=
  ⟨Nat.lt_of_lt_of_le h.lt hb.size, fun t ht => by obtain ⟨u, hu⟩ := h.has t ht; exact ⟨u, (hb.cell (p := ⟨g, t, none⟩) h.lt).trans hu⟩, fun t ht => (hb.frozen (p := ⟨g, t, none⟩) h.lt).trans (h.cold t ht),
    fun t ht => (hb.cell (p := ⟨g, t, none⟩) h.lt).trans (h.marked t ht)⟩
theorem HotM.set {W : World} {g N k m : Nat} (h : HotM W g N k m) (hm : m < N) : HotM (W.setCell ⟨g, m, none⟩ (markV k m)) g N k (m + 1) := by
  refine ⟨by rw [World.size_setCell]; exact h.lt, fun t ht => ?_, fun t ht => by rw [World.frozen?_setCell]; exact h.cold t ht, fun t ht => ?_⟩
  · by_cases e : t = m
    · subst e
      obtain ⟨u, hu⟩ := h.has t ht
      exact ⟨_, World.cell?_setCell_same _ _ _ hu⟩
    · obtain ⟨u, hu⟩ := h.has t ht
      exact ⟨u, (World.cell?_setCell_other _ _ _ _ (fun q => e (by cases q; rfl))).trans hu⟩
  · by_cases e : t = m
    · subst e
      obtain ⟨u, hu⟩ := h.has t hm
      exact World.cell?_setCell_same _ _ _ hu
    · exact (World.cell?_setCell_other _ _ _ _ (fun q => e (by cases q; rfl))).trans (h.marked t (by omega))
theorem grown_trans {A B C : World} {row : Option Nat} (h : A.grownBy B row) (k : B.grownBy C row) : A.grownBy C row :=
  ⟨k.os.trans h.os, k.tape.trans h.tape, k.output.trans h.output, Nat.le_trans h.size k.size, fun j hj hne => (k.block j (Nat.lt_of_lt_of_le hj h.size) hne).trans (h.block j hj hne)⟩
theorem grown_set (W : World) (g o : Nat) (v : Value) : W.grownBy (W.setCell ⟨g, o, none⟩ v) (some g) :=
  ⟨rfl, rfl, rfl, by rw [World.size_setCell]; exact Nat.le_refl _, fun k _ hk => Below.heap_setCell _ _ _ k (fun e => hk (by rw [e]))⟩
theorem grown_any {W W' : World} (h : RowKit.Below W.heap.size W W') (row : Option Nat) : W.grownBy W' row := ⟨h.os, h.tape, h.output, h.size, fun k hk _ => h.block k hk⟩
theorem grown_refl (W : World) (row : Option Nat) : W.grownBy W row := ⟨rfl, rfl, rfl, Nat.le_refl _, fun _ _ _ => rfl⟩

set_option maxRecDepth 100000 in
set_option maxHeartbeats 2000000 in
theorem markRow_any (g n cap : Nat) (w : World) (h : HotM w g (n * 4) 1 0) (hn : n ≤ 1048576) :
    Calls Tryd.prog 61 #[.slice (some ⟨g, 0, none⟩) n cap, .int .i64 1] w fun x w' => x = .returned (.int .i64 ((1 + n * 4 : Nat) : Int)) ∧ HotM w' g (n * 4) 1 (n * 4) ∧ w.grownBy w' (some g) := by
  have HH := Lib.hid h
  have hn' : (n : Int) ≤ 1048576 := by omega
  clear h
  go_enter Tryd.func61, Tryd.ntmps61
  go_wp2
  go_loopw [1, 5] (fun kv i wr => ∃ j : Nat, i = .int .i64 j ∧ kv = .int .i64 ((1 + j * 4 : Nat) : Int) ∧ j ≤ n ∧ Hid (HotM wr g (n * 4) 1 (j * 4)) ∧ Hid (w.grownBy wr (some g))) (fun _ i _ => n - (Lib.intOf i).toNat)
  case atStart => exact ⟨0, rfl, rfl, Nat.zero_le _, HH.out, grown_refl _ _⟩
  case round =>
    obtain ⟨j, rfl, rfl, hj, HM, HG⟩ := hrel
    by_cases hlt : j < n
    · have hj0 : (0 : Int) ≤ (j : Int) := by omega
      have hjn : (j : Int) < (n : Int) := by omega
      obtain ⟨u0, c0⟩ := HM.out.has (j * 4) (by omega)
      have f0 := HM.out.cold (j * 4) (by omega)
      have M1 := Lib.hid (HM.out.set (by omega))
      obtain ⟨u1, c1⟩ := M1.out.has (j * 4 + 1) (by omega)
      have f1 := M1.out.cold (j * 4 + 1) (by omega)
      have M2 := Lib.hid (M1.out.set (by omega))
      have G2 := Lib.hid (grown_trans HG.out (grown_trans (grown_set wr g (j * 4) (markV 1 (j * 4))) (grown_set _ g (j * 4 + 1) (markV 1 (j * 4 + 1)))))
      have e0 : markV 1 (j * 4) = .int .i64 (1 + (j : Int) * 4) := by unfold markV; rw [if_neg (by omega)]; exact congrArg (Value.int .i64) (by omega)
      have e1 : markV 1 (j * 4 + 1) = .int .i64 (1 + (j : Int) * 4 + 1) := by unfold markV; rw [if_neg (by omega)]; exact congrArg (Value.int .i64) (by omega)
      obtain ⟨z, hz⟩ : ∃ z, z = markS ((1 + (j * 4 + 2) : Nat) : Int) := ⟨_, rfl⟩
      have E2 := Lib.hid (show markV 1 (j * 4 + 2) = .string z by unfold markV; rw [if_pos (by omega), hz])
      have E3 := Lib.hid (show markV 1 (j * 4 + 3) = .int .i64 (1 + (j : Int) * 4 + 1 + 1 + 1) by unfold markV; rw [if_neg (by omega)]; exact congrArg (Value.int .i64) (by omega))
      have ec : (((1 + (j * 4 + 2) : Nat) : Int)) = 1 + (j : Int) * 4 + 1 + 1 := by omega
      have hmt := fun W => markText_any (1 + (j * 4 + 2)) (by omega) (by omega) W
      rw [← hz, ec] at hmt
      have HMT := Lib.hid hmt
      rw [e0] at c1 f1
      rw [e0, e1] at M2 G2
      clear e0 e1 M1 hz ec hmt
      go_wp2_with (go_at_call 62; refine (HMT.out _).mono ?_; rintro x w2 ⟨rfl, hb⟩; have M3 := Lib.hid (M2.out.below hb); have G3 := Lib.hid (grown_trans G2.out (grown_any hb _)); obtain ⟨u2, c2⟩ := M3.out.has (j * 4 + 2) (by omega); have f2 := M3.out.cold (j * 4 + 2) (by omega); have M4 := Lib.hid (M3.out.set (by omega)); rw [E2.out] at M4; obtain ⟨u3, c3⟩ := M4.out.has (j * 4 + 3) (by omega); have f3 := M4.out.cold (j * 4 + 3) (by omega); clear hb)
      go_roundw
      case rel =>
        refine ⟨j + 1, by go_num, congrArg (Value.int .i64) (by omega), by omega, ?_, ?_⟩
        · have M5 := M4.out.set (by omega)
          rw [E3.out] at M5
          show HotM _ _ _ _ _
          rw [show (j + 1) * 4 = j * 4 + 3 + 1 by omega]
          exact M5
        · exact grown_trans G3.out (grown_trans (grown_set _ g (j * 4 + 2) _) (grown_set _ g (j * 4 + 3) _))
      case measure => simp [Lib.intOf]; omega
    · have hjn : j = n := by omega
      have HJ := Lib.hid hjn
      clear hjn
      go_wp2_with fail
      go_ret
      refine ⟨retIMT (by rw [HJ.out]), ?_, HG.out⟩
      have := HM.out
      rw [HJ.out] at this
      exact this

set_option maxHeartbeats 400000 in
theorem markNil_any (p : Option Addr) (cap : Nat) (w : World) : Calls Tryd.prog 61 #[.slice p 0 cap, .int .i64 1] w fun x w' => x = .returned (.int .i64 1) ∧ w = w' := by
  go_enter Tryd.func61, Tryd.ntmps61
  go_wp2
  refine wp_loop_rounds 1 ?_
  rw [rounds_succ]
  go_wp2
  go_ret
  exact ⟨rfl, rfl⟩
set_option maxHeartbeats 400000 in
/-- markSwitch marks the cases of a switch that lies in memory of the call's own. -/
theorem markSw_any (g n cap : Nat) (rest : Int) (w : World) (h : HotM w g (n * 4) 1 0) (hn : n ≤ 1048576) :
    Calls Tryd.prog 25 #[.agg #[.slice (some ⟨g, 0, none⟩) n cap, .int .i64 rest], .int .i64 1] w fun x w' => x = .returned (.int .i64 ((1 + n * 4 : Nat) : Int)) ∧ w.grownBy w' (some g) := by
  have hb := (Below.refl w.heap.size w).alloc (Nat.le_refl _) (.cells #[.slice (some ⟨g, 0, none⟩) n cap, .int .i64 rest] 25)
  have hm := Lib.hid (markRow_any g n cap _ (h.below hb) hn)
  have HB := Lib.hid hb
  clear h hn hb
  go_enter Tryd.func25, Tryd.ntmps25
  go_wp2_with (go_at_call 61; refine hm.out.mono ?_; rintro x w' ⟨rfl, hM, hG⟩; have HG := Lib.hid hG; clear hM hG)
  go_ret
  exact ⟨rfl, grown_trans (grown_any HB.out _) HG.out⟩

/-! a copy that can be written -/
theorem hot_of_holds {w : World} {g : Nat} {q : Array CaseD} (h : HoldsK encC 4 w g 0 q) (hg : g < w.heap.size) : HotM w g (q.size * 4) 1 0 := by
  refine ⟨hg, fun t ht => ?_, fun t ht => ?_, fun t ht => absurd ht (Nat.not_lt_zero t)⟩
  · have := (h t (by rw [size_flatK]; exact ht)).1
    rw [Nat.zero_add] at this
    exact ⟨_, this⟩
  · have := (h t (by rw [size_flatK]; exact ht)).2
    rw [Nat.zero_add] at this
    exact this
theorem HotM.other {W : World} {g N k m : Nat} (h : HotM W g N k m) {a : Addr} (ha : a.block ≠ g) (u : Value) : HotM (W.setCell a u) g N k m := by
  have e : ∀ o, (W.setCell a u).cell? ⟨g, o, none⟩ = W.cell? ⟨g, o, none⟩ := fun o => World.cell?_of_block (Below.heap_setCell W a u g (fun h => ha h.symm))
  exact ⟨by rw [World.size_setCell]; exact h.lt, fun t ht => by obtain ⟨v, hv⟩ := h.has t ht; exact ⟨v, (e t).trans hv⟩, fun t ht => by rw [World.frozen?_setCell]; exact h.cold t ht, fun t ht => (e t).trans (h.marked t ht)⟩
def RowH (W : World) (g : Nat) (d : Array CaseD) : Prop := RowC W g 0 d ∧ HotM W g (d.size * 4) 1 0
theorem RowH.setCell {W : World} {g : Nat} {d : Array CaseD} (h : RowH W g d) {a : Addr} (ha : a.block ≠ g) (u : Value) : RowH (W.setCell a u) g d := ⟨h.1.setCell ha u, h.2.other ha u⟩
theorem RowH.below {W W' : World} {g : Nat} {d : Array CaseD} (h : RowH W g d) (hb : RowKit.Below W.heap.size W W') : RowH W' g d := ⟨h.1.below hb, h.2.below hb⟩
/-- A fresh slice that holds the cases and can be written. -/
def FreshH (n : Nat) (d : Array CaseD) (w w' : World) (g : Nat) : Prop := n ≤ g ∧ RowH w' g d ∧ RowKit.Below w.heap.size w w'

set_option maxRecDepth 100000 in
set_option maxHeartbeats 400000 in
theorem toCaseS_rowH (b off cap : Nat) (d : Array CaseD) (w : World) (hR : RowC w b off d) (hn : d.size ≤ 1048576) :
    Calls Tryd.prog 59 #[.slice (some ⟨b, off, none⟩) d.size cap] w fun x w' =>
      ∃ g, x = .returned (.slice (some ⟨g, 0, none⟩) d.size d.size) ∧ w.heap.size ≤ g ∧ (RowC w' g 0 d ∧ HotM w' g (d.size * 4) 1 0) ∧ RowKit.Below w.heap.size w w' := by
  have HR := Lib.hid hR
  clear hR
  have hn' : (d.size : Int) ≤ 1048576 := by omega
  have hmk := run_makeC d.size hn
  go_enter Tryd.func59, Tryd.ntmps59
  go_wp2
  have hH0 := made_holds d.size w w.heap.size rfl
  obtain ⟨wa, hwa⟩ : ∃ wa, wa = w.alloc (.cells (madeCells zeroCells (d.size * 4)) 81) := ⟨_, rfl⟩
  rw [← hwa] at hH0
  have hz : w.heap.size < wa.heap.size := by rw [hwa]; simp
  have hba : RowKit.Below w.heap.size w wa := by rw [hwa]; exact (Below.refl _ _).alloc (Nat.le_refl _) _
  rw [← hwa]
  have HH0 := Lib.hid hH0
  have HB := Lib.hid hba
  clear hwa hba hH0 hmk
  obtain ⟨g, hg⟩ : ∃ g, g = w.heap.size := ⟨_, rfl⟩
  rw [← hg] at HH0 hz ⊢
  have HG := Lib.hid hg
  clear hg
  go_loopw [4] (fun i wr => ∃ (k : Nat) (q : Array CaseD), i = .int .i64 k ∧ k ≤ d.size ∧ Hid (q.size = d.size) ∧ Hid (HoldsK encC 4 wr g 0 q) ∧ Hid (∀ j, j < k → q[j]! = d[j]!) ∧ Hid (RowKit.Below w.heap.size w wr) ∧ wa.heap.size ≤ wr.heap.size) (fun i _ => d.size - (Lib.intOf i).toNat)
  case atStart => exact ⟨0, _, rfl, Nat.zero_le _, by simp [Hid], HH0.out, fun j hj => absurd hj (Nat.not_lt_zero _), HB.out, Nat.le_refl _⟩
  case round =>
    obtain ⟨k, q, rfl, hk, HQ, HH, HE, HW, hw2⟩ := hrel
    by_cases hlt : k < d.size
    · have hx := HR.out.below HW.out
      have x0 := hx.low k hlt
      have x1 := hx.high k hlt
      have x2 := hx.target k hlt
      have x3 := hx.weight k hlt
      clear hx
      obtain ⟨x, hxe⟩ : ∃ x, x = d[k]! := ⟨_, rfl⟩
      rw [← hxe] at x0 x1 x2 x3
      have XE := Lib.hid hxe
      clear hxe
      have hcall := toCase_any x wr
      obtain ⟨cx, hcx⟩ : ∃ c, c = encC x := ⟨_, rfl⟩
      have hag : aggC x = .agg cx.toArray := by rw [hcx]; rfl
      have hcall2 : Calls Tryd.prog 82 #[aggC x] wr fun x w' => x = .returned (.agg cx.toArray) ∧ RowKit.Below wr.heap.size wr w' := by rw [← hag]; exact hcall
      have HCL := Lib.hid hcall2
      have CX := Lib.hid hcx
      clear hcall hcall2 hag hcx
      have hlen : cx.length = 4 := by rw [CX.out]; rfl
      have hgr : g < wr.heap.size := by omega
      have hqk : k < q.size := by rw [HQ.out]; exact hlt
      go_wp2_with (go_at_call 82; refine HCL.out.mono ?_; rintro y w' ⟨rfl, hb⟩; have hst := holds_store (holdsK_below HH.out hgr hb) k x hqk; rw [← CX.out, Nat.zero_add] at hst; have HST := Lib.hid hst.1; replace hst := hst.2)
      go_roundw
      case rel =>
        have hb2 := below_setCells cx w' g (k * 4) (HW.out.trans (hb.mono (Nat.le_trans (Nat.le_trans (Nat.le_of_lt_succ (by have := HG.out; omega)) (Nat.le_refl _)) (Nat.le_refl _)))) (Nat.le_of_eq HG.out.symm)
        refine ⟨k + 1, q.setIfInBounds k x, by go_num, by omega, (show _ = _ by simpa using HQ.out), HST.out, (show Hid _ from fun j hj => ?_), hb2, ?_⟩
        · by_cases e : j = k
          · subst e
            rw [getElem!_set_same _ _ _ hqk]
            exact XE.out
          · rw [getElem!_set_other _ _ _ _ e]
            exact HE.out j (by omega)
        · rw [size_setCells]
          exact Nat.le_trans hw2 hb.size
      case measure => simp [Lib.intOf]; omega
    · go_wp2
      go_ret
      refine ⟨g, rfl, Nat.le_of_eq HG.out.symm, ?_, HW.out⟩
      have e : q = d := Array.ext HQ.out fun j h1 h2 => by
        have := HE.out j (by omega)
        simpa [h1, h2] using this
      rw [← e]
      exact ⟨RowC.of_holds HH.out (by omega), hot_of_holds HH.out (by omega)⟩

theorem toCaseS_hot (v : Value) (d : Array CaseD) (w : World) (hv : SliceC w v d) (hn : d.size ≤ 1048576) :
    Calls Tryd.prog 59 #[v] w fun x w' => ∃ g, x = .returned (.slice (some ⟨g, 0, none⟩) d.size d.size) ∧ FreshH w.heap.size d w w' g := by
  rcases hv with ⟨p, cap, rfl, rfl⟩ | ⟨b, off, cap, rfl, _, _, hR⟩
  · refine (toCaseS_nil p cap w).mono fun x w' ⟨h1, h2⟩ => ⟨w.heap.size, h1, Nat.le_refl _, ?_, ?_⟩
    · rw [h2]
      exact ⟨⟨by simp, fun j hj => absurd hj (Nat.not_lt_zero j), fun j hj => absurd hj (Nat.not_lt_zero j), fun j hj => absurd hj (Nat.not_lt_zero j), fun j hj => absurd hj (Nat.not_lt_zero j)⟩,
        ⟨by simp, fun t ht => absurd ht (by simp), fun t ht => absurd ht (by simp), fun t ht => absurd ht (Nat.not_lt_zero t)⟩⟩
    · rw [h2]
      exact (Below.refl _ _).alloc (Nat.le_refl _) _
  · exact (toCaseS_rowH b off cap d w hR hn).mono fun x w' ⟨g, h1, h2, h3, h4⟩ => ⟨g, h1, h2, h3, h4⟩

set_option maxHeartbeats 1000000 in
theorem toSwitch_hot (v : Value) (rest : Int) (d : Array CaseD) (w : World) (hv : SliceC w v d) (hn : d.size ≤ 1048576) :
    Calls Tryd.prog 21 #[.agg #[v, .int .i64 rest]] w fun x w' => ∃ g, x = .returned (.agg #[.slice (some ⟨g, 0, none⟩) d.size d.size, .int .i64 rest]) ∧ FreshH w.heap.size d w w' g := by
  have hcall := Lib.hid (fun W (hW : RowKit.Below w.heap.size w W) => toCaseS_hot v d W (hv.below hW) hn)
  clear hv hn
  go_enter Tryd.func21, Tryd.ntmps21
  go_wp2_with fail
  refine (hcall.out _ ((((Below.refl _ _).alloc (Nat.le_refl _) _).alloc (by simp) _).alloc (by simp; omega) _)).mono ?_
  rintro x w' ⟨g, rfl, hg, hR, hb⟩
  have hb0 := (((Below.refl w.heap.size w).alloc (Nat.le_refl _) (.cells #[v, .int .i64 rest] 44)).alloc (by simp) (.cells #[.slice none 0 0, .int .i64 0] 25)).alloc (by simp; omega) (.cells #[.slice none 0 0, .int .i64 0] 25) |>.trans (hb.mono (by simp; omega))
  have hsz := hb.size
  have HB0 := Lib.hid hb0
  have HRR := Lib.hid hR
  have HG := Lib.hid hg
  obtain ⟨hc, hf⟩ := bcell hb
  simp at hsz
  clear hb hb0 hR hg
  go_wp2
  have hg3 : w.heap.size + 1 + 1 + 1 ≤ g := by simpa using HG.out
  refine bodyPost_ret (v := .agg #[.slice (some ⟨g, 0, none⟩) d.size d.size, .int .i64 rest]) (by simp [results, Tryd.results21, go_sem, hc]) rfl ⟨g, rfl, by omega, ?_, ?_⟩
  · exact (((HRR.out.setCell (by show w.heap.size + 1 + 1 ≠ g; omega) _).setCell (by show w.heap.size + 1 + 1 ≠ g; omega) _).setCell (by show w.heap.size + 1 ≠ g; omega) _).setCell (by show w.heap.size + 1 ≠ g; omega) _
  · exact (((HB0.out.setCell (by show w.heap.size ≤ w.heap.size + 1 + 1; omega) _).setCell (by show w.heap.size ≤ w.heap.size + 1 + 1; omega) _).setCell (by show w.heap.size ≤ w.heap.size + 1; omega) _).setCell (by show w.heap.size ≤ w.heap.size + 1; omega) _

end Go.Proofs.YtmhloojnekjfhaaDoor
