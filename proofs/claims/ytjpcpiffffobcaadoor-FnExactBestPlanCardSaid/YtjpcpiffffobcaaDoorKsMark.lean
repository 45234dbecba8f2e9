
/- The laws' marks: markText; markCaseS writes them into a slice, heldCaseS finds them there. -/
import Derived.Test.YtjpcpiffffobcaaDoorKsFlow
import Derived.Test.YtjpcpiffffobcaaDoorKsQuiet
namespace Go.Proofs.YtjpcpiffffobcaaDoor
open Go.RowKit Go.Shelf Go.Lib Go.Sort

def decR (k : Nat) : ByteArray := if k = 0 then ⟨#[]⟩ else decR (k / 10) ++ ⟨#[UInt8.ofNat (48 + k % 10)]⟩
termination_by k
decreasing_by omega
theorem decR_zero : decR 0 = ⟨#[]⟩ := by rw [decR, if_pos rfl]
theorem decR_pos {k : Nat} (h : 0 < k) : decR k = decR (k / 10) ++ ⟨#[UInt8.ofNat (48 + k % 10)]⟩ := by rw [decR, if_neg (by omega)]
def markS (k : Int) : ByteArray := ⟨#[109]⟩ ++ decR k.toNat
theorem byteS (z : Int) (W : World) : Sem.run Tryd.prog (convert 109 9 (.slice (some ⟨W.heap.size, 0, none⟩) 1 1)) (W.alloc (.cells #[.int .u8 z] 5)) = .ok (.string ⟨#[UInt8.ofNat z.toNat]⟩) (W.alloc (.cells #[.int .u8 z] 5)) := by
  rw [run_convert_bytes_string _ _ _ _ _ _ _ Tryd.underlying109 Tryd.underlying5 Tryd.underlying9, run_bytesToString _ _ _ _ [z] (by go_simp)]
  rfl
theorem retT {a c : ByteArray} (h : a = c) : Ending.returned (.string a) = .returned (.string c) := by rw [h]

set_option maxRecDepth 100000 in
set_option maxHeartbeats 1000000 in
theorem markText_any (k : Nat) (h1 : 1 ≤ k) (h2 : k ≤ 99999999) (w : World) : Calls Tryd.prog 57 #[.int .i64 k] w fun x w' => x = .returned (.string (markS k)) ∧ RowKit.Below w.heap.size w w' := by
  have hconv := fun z W => byteS z W
  have H1 : (1 : Int) ≤ k := by omega
  have H2 : (k : Int) ≤ 99999999 := by omega
  have HK := Lib.hid (show markS (k : Int) = ⟨#[109]⟩ ++ decR k by unfold markS; rw [Int.toNat_natCast])
  go_enter Tryd.func57, Tryd.ntmps57
  go_wp2
  go_loopw [0, 3] (fun kv ov wr => ∃ (q j : Nat) (acc : ByteArray), kv = .int .i64 q ∧ ov = .string acc ∧ q ≤ 99999999 ∧ Hid (decR q ++ acc = decR k) ∧ Hid (q * 10 ^ j ≤ 99999999) ∧ acc.size ≤ j ∧ j ≤ 8 ∧ Hid (RowKit.Below w.heap.size w wr) ∧ w.heap.size ≤ wr.heap.size) (fun kv _ _ => (intOf kv).toNat)
  case atStart => exact ⟨k, 0, ⟨#[]⟩, rfl, rfl, h2, (by show decR k ++ _ = decR k; apply ByteArray.ext; simp [ByteArray.data_append]), (by show k * 10 ^ 0 ≤ _; omega), Nat.le_refl _, by omega, Below.refl _ _, Nat.le_refl _⟩
  case round =>
    obtain ⟨q, j, acc, rfl, rfl, hq, HE, HP, hj, hj8, HW, hw2⟩ := hrel
    by_cases h0 : q = 0
    · subst h0
      go_wp2
      go_ret
      refine ⟨retT ?_, HW.out⟩
      rw [HK.out, ← HE.out, decR_zero]
      apply ByteArray.ext
      simp [ByteArray.data_append]
    · have hq1 : (1 : Int) ≤ q := by omega
      have hq2 : (q : Int) ≤ 99999999 := by omega
      have hr0 : 0 ≤ (q : Int) % 10 := by omega
      have hr1 : (q : Int) % 10 ≤ 9 := by omega
      have hw : IntKind.u8.wrap (48 + (q : Int) % 10) = 48 + (q : Int) % 10 := by rw [IntKind.wrap]; simp [IntKind.signed, IntKind.bits]; omega
      have hj7 : j ≤ 7 := by
        rcases Nat.lt_or_ge j 8 with h | h
        · omega
        · have e : j = 8 := by omega
          have := HP.out
          rw [e] at this
          omega
      have HQ := Lib.hid h0
      clear h0
      go_wp2
      go_roundw
      case rel =>
        refine ⟨q / 10, j + 1, _, by congr 1, rfl, by omega, ?_, ?_, ?_, by omega, HW.out.alloc hw2 _, by simp; omega⟩
        · show _ = _
          rw [← HE.out, decR_pos (by have := HQ.out; omega : 0 < q), ByteArray.append_assoc]
          congr 2
          rw [UInt8.ofNat_add]
          rfl
        · show q / 10 * 10 ^ (j + 1) ≤ _
          have h3 := HP.out
          rw [Nat.pow_succ, Nat.mul_comm (10 ^ j) 10, ← Nat.mul_assoc]
          exact Nat.le_trans (Nat.mul_le_mul_right _ (Nat.div_mul_le_self q 10)) h3
        · rw [ByteArray.size_append]
          show 1 + _ ≤ _
          omega
      case measure => simp [intOf]; omega

/-! cells that are marked one behind the other -/
def markV (k : Nat) (t : Nat) : Value := if t % 4 = 2 then .string (markS ((k + t : Nat) : Int)) else .int .i64 ((k + t : Nat) : Int)
structure HotM (W : World) (g N k m : Nat) : Prop where
  lt : g < W.heap.size
  has : ∀ t, t < N → ∃ u, W.cell? ⟨g, t, none⟩ = some u
  cold : ∀ t, t < N → W.frozen? ⟨g, t, none⟩ = false
  marked : ∀ t, t < m → W.cell? ⟨g, t, none⟩ = some (markV k t)
theorem HotM.below {W W' : World} {g N k m : Nat} (h : HotM W g N k m) (hb : RowKit.Below W.heap.size W W') : HotM W' g N k m :=
  ⟨Nat.lt_of_lt_of_le h.lt hb.size, fun t ht => by obtain ⟨u, hu⟩ := h.has t ht; exact ⟨u, (hb.cell (p := ⟨g, t, none⟩) h.lt).trans hu⟩, fun t ht => (hb.frozen (p := ⟨g, t, none⟩) h.lt).trans (h.cold t ht),
    fun t ht => (hb.cell (p := ⟨g, t, none⟩) h.lt).trans (h.marked t ht)⟩
theorem HotM.set {W : World} {g N k m : Nat} (h : HotM W g N k m) (hm : m < N) : HotM (W.setCell ⟨g, m, none⟩ (markV k m)) g N k (m + 1) := by
  refine ⟨by rw [World.size_setCell]; exact h.lt, fun t ht => ?_, fun t ht => by rw [World.frozen?_setCell]; exact h.cold t ht, fun t ht => ?_⟩
  · by_cases e : t = m
    · subst e
      obtain ⟨u, hu⟩ := h.has t ht
      exact ⟨_, World.cell?_setCell_same _ _ _ hu⟩
    · obtain ⟨u, hu⟩ := h.has t ht
      exact ⟨u, (World.cell?_setCell_other _ _ _ _ (fun q => e (by cases q; rfl))).trans hu⟩
  · by_cases e : t = m
    · subst e
      obtain ⟨u, hu⟩ := h.has t hm
      exact World.cell?_setCell_same _ _ _ hu
    · exact (World.cell?_setCell_other _ _ _ _ (fun q => e (by cases q; rfl))).trans (h.marked t (by omega))
theorem grown_trans {A B C : World} {row : Option Nat} (h : A.grownBy B row) (k : B.grownBy C row) : A.grownBy C row :=
  ⟨k.os.trans h.os, k.tape.trans h.tape, k.output.trans h.output, Nat.le_trans h.size k.size, fun j hj hne => (k.block j (Nat.lt_of_lt_of_le hj h.size) hne).trans (h.block j hj hne)⟩
theorem grown_set (W : World) (g o : Nat) (v : Value) : W.grownBy (W.setCell ⟨g, o, none⟩ v) (some g) :=
  ⟨rfl, rfl, rfl, by rw [World.size_setCell]; exact Nat.le_refl _, fun k _ hk => Below.heap_setCell _ _ _ k (fun e => hk (by rw [e]))⟩
theorem grown_any {W W' : World} (h : RowKit.Below W.heap.size W W') (row : Option Nat) : W.grownBy W' row := ⟨h.os, h.tape, h.output, h.size, fun k hk _ => h.block k hk⟩
theorem grown_refl (W : World) (row : Option Nat) : W.grownBy W row := ⟨rfl, rfl, rfl, Nat.le_refl _, fun _ _ _ => rfl⟩

set_option maxRecDepth 100000 in
set_option maxHeartbeats 2000000 in
theorem markRow_any (g n cap : Nat) (w : World) (h : HotM w g (n * 4) 1 0) (hn : n ≤ 1048576) :
    Calls Tryd.prog 56 #[.slice (some ⟨g, 0, none⟩) n cap, .int .i64 1] w fun x w' => x = .returned (.int .i64 ((1 + n * 4 : Nat) : Int)) ∧ HotM w' g (n * 4) 1 (n * 4) ∧ w.grownBy w' (some g) := by
  have HH := Lib.hid h
  have hn' : (n : Int) ≤ 1048576 := by omega
  clear h
  go_enter Tryd.func56, Tryd.ntmps56
  go_wp2
  go_loopw [1, 5] (fun kv i wr => ∃ j : Nat, i = .int .i64 j ∧ kv = .int .i64 ((1 + j * 4 : Nat) : Int) ∧ j ≤ n ∧ Hid (HotM wr g (n * 4) 1 (j * 4)) ∧ Hid (w.grownBy wr (some g))) (fun _ i _ => n - (intOf i).toNat)
  case atStart => exact ⟨0, rfl, rfl, Nat.zero_le _, HH.out, grown_refl _ _⟩
  case round =>
    obtain ⟨j, rfl, rfl, hj, HM, HG⟩ := hrel
    by_cases hlt : j < n
    · have hj0 : (0 : Int) ≤ (j : Int) := by omega
      have hjn : (j : Int) < (n : Int) := by omega
      obtain ⟨u0, c0⟩ := HM.out.has (j * 4) (by omega)
      have f0 := HM.out.cold (j * 4) (by omega)
      have M1 := Lib.hid (HM.out.set (by omega))
      obtain ⟨u1, c1⟩ := M1.out.has (j * 4 + 1) (by omega)
      have f1 := M1.out.cold (j * 4 + 1) (by omega)
      have M2 := Lib.hid (M1.out.set (by omega))
      have G2 := Lib.hid (grown_trans HG.out (grown_trans (grown_set wr g (j * 4) (markV 1 (j * 4))) (grown_set _ g (j * 4 + 1) (markV 1 (j * 4 + 1)))))
      have e0 : markV 1 (j * 4) = .int .i64 (1 + (j : Int) * 4) := by unfold markV; rw [if_neg (by omega)]; exact congrArg (Value.int .i64) (by omega)
      have e1 : markV 1 (j * 4 + 1) = .int .i64 (1 + (j : Int) * 4 + 1) := by unfold markV; rw [if_neg (by omega)]; exact congrArg (Value.int .i64) (by omega)
      obtain ⟨z, hz⟩ : ∃ z, z = markS ((1 + (j * 4 + 2) : Nat) : Int) := ⟨_, rfl⟩
      have E2 := Lib.hid (show markV 1 (j * 4 + 2) = .string z by unfold markV; rw [if_pos (by omega), hz])
      have E3 := Lib.hid (show markV 1 (j * 4 + 3) = .int .i64 (1 + (j : Int) * 4 + 1 + 1 + 1) by unfold markV; rw [if_neg (by omega)]; exact congrArg (Value.int .i64) (by omega))
      have ec : (((1 + (j * 4 + 2) : Nat) : Int)) = 1 + (j : Int) * 4 + 1 + 1 := by omega
      have hmt := fun W => markText_any (1 + (j * 4 + 2)) (by omega) (by omega) W
      rw [← hz, ec] at hmt
      have HMT := Lib.hid hmt
      rw [e0] at c1 f1
      rw [e0, e1] at M2 G2
      clear e0 e1 M1 hz ec hmt
      go_wp2_with (go_at_call 57; refine (HMT.out _).mono ?_; rintro x w2 ⟨rfl, hb⟩; have M3 := Lib.hid (M2.out.below hb); have G3 := Lib.hid (grown_trans G2.out (grown_any hb _)); obtain ⟨u2, c2⟩ := M3.out.has (j * 4 + 2) (by omega); have f2 := M3.out.cold (j * 4 + 2) (by omega); have M4 := Lib.hid (M3.out.set (by omega)); rw [E2.out] at M4; obtain ⟨u3, c3⟩ := M4.out.has (j * 4 + 3) (by omega); have f3 := M4.out.cold (j * 4 + 3) (by omega); clear hb)
      go_roundw
      case rel =>
        refine ⟨j + 1, by go_num, congrArg (Value.int .i64) (by omega), by omega, ?_, ?_⟩
        · have M5 := M4.out.set (by omega)
          rw [E3.out] at M5
          show HotM _ _ _ _ _
          rw [show (j + 1) * 4 = j * 4 + 3 + 1 by omega]
          exact M5
        · exact grown_trans G3.out (grown_trans (grown_set _ g (j * 4 + 2) _) (grown_set _ g (j * 4 + 3) _))
      case measure => simp [intOf]; omega
    · have hjn : j = n := by omega
      have HJ := Lib.hid hjn
      clear hjn
      go_wp2_with fail
      go_ret
      refine ⟨retI (by rw [HJ.out]), ?_, HG.out⟩
      have := HM.out
      rw [HJ.out] at this
      exact this

set_option maxHeartbeats 400000 in
theorem markNil_any (p : Option Addr) (cap : Nat) (w : World) : Calls Tryd.prog 56 #[.slice p 0 cap, .int .i64 1] w fun x w' => x = .returned (.int .i64 1) ∧ w = w' := by
  go_enter Tryd.func56, Tryd.ntmps56
  go_wp2
  refine wp_loop_rounds 1 ?_
  rw [rounds_succ]
  go_wp2
  go_ret
  exact ⟨rfl, rfl⟩
end Go.Proofs.YtjpcpiffffobcaaDoor
