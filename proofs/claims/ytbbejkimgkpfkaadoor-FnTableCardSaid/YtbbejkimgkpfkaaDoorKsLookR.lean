
/- LookTable: the program's and the model's; readRow, of. -/
import Derived.Test.YtbbejkimgkpfkaaDoorKsLeaf
import Derived.Test.YtbbejkimgkpfkaaDoorKsRowP
import Derived.IntWalk
import Derived.Laws.ResultCell
import Derived.Laws.CopyOwn
namespace Go.Proofs.YtbbejkimgkpfkaaDoor
open Go.RowKit

def tgWB (c : UInt8) : Bool := tgtB (c.toNat : Int) || decide ((c.toNat : Int) = 122)
def allT (s : ByteArray) : Bool := s.data.toList.all tgWB
theorem allT_iff (s : ByteArray) : allT s = true ↔ ∀ i (h : i < s.size), tgWB s[i] = true := by
  unfold allT
  rw [List.all_eq_true]
  constructor
  · intro h i hi
    exact h _ (by rw [Array.mem_toList_iff]; exact Array.getElem_mem (xs := s.data) hi)
  · intro h c hc
    rw [Array.mem_toList_iff] at hc
    obtain ⟨i, hi, rfl⟩ := Array.getElem_of_mem hc
    exact h i hi
theorem allT_no {s : ByteArray} {i : Nat} (h : i < s.size) (hc : tgWB s[i] = false) : allT s = false := by
  cases ha : allT s with
  | false => rfl
  | true => rw [(allT_iff s).1 ha i h] at hc; cases hc
def zU : ByteArray := ⟨#[122]⟩
def lookOK (s : ByteArray) (low key : Int) : Bool := allT s && keyB low && keyB key && decide (low + s.size ≤ 32)
def lookS (s : ByteArray) (low key : Int) : ByteArray :=
  if lookOK s low key = true then (if low ≤ key ∧ key < low + s.size then s.extract (key - low).toNat ((key - low).toNat + 1) else zU) else ⟨#[]⟩
theorem ret2u {a c : ByteArray} {b e : Bool} (h : a = c) (h2 : b = e) : Ending.returned (.tuple #[.string a, .bool b]) = .returned (.tuple #[.string c, .bool e]) := by rw [h, h2]
theorem lookOK_no1 {s : ByteArray} {low key : Int} (h : allT s = false) : lookOK s low key = false := by simp [lookOK, h]
theorem lookOK_no2 {s : ByteArray} {low key : Int} (h : keyB low = false) : lookOK s low key = false := by simp [lookOK, h]
theorem lookOK_no3 {s : ByteArray} {low key : Int} (h : keyB key = false) : lookOK s low key = false := by simp [lookOK, h]
theorem lookOK_no4 {s : ByteArray} {low key : Int} (h : ¬ low + s.size ≤ 32) : lookOK s low key = false := by simp [lookOK, h]
theorem lookOK_yes {s : ByteArray} {low key : Int} (h1 : allT s = true) (h2 : keyB low = true) (h3 : keyB key = true) (h4 : low + s.size ≤ 32) : lookOK s low key = true := by simp [lookOK, h1, h2, h3, h4]
theorem lookS_no {s : ByteArray} {low key : Int} (h : lookOK s low key = false) : lookS s low key = ⟨#[]⟩ := by rw [lookS, if_neg (by rw [h]; exact Bool.false_ne_true)]

/-! the model -/
set_option maxRecDepth 100000 in
set_option maxHeartbeats 1000000 in
theorem l6Targets_any (s : ByteArray) (w : World) (hs : s.size ≤ 1048576) : Calls Tryd.prog 82 #[.string s] w fun e w' => e = .returned (.bool (allT s)) ∧ w = w' := by
  go_enter Tryd.func82, Tryd.ntmps82
  go_wp2_with fail
  go_loop [6] (fun i => ∃ k : Nat, i = .int .i64 k ∧ k ≤ s.size ∧ Hid (∀ j (h : j < s.size), j < k → tgWB s[j] = true)) (fun i => s.size - (intOf i).toNat)
  case atStart => exact ⟨0, rfl, Nat.zero_le _, fun j _ h => absurd h (Nat.not_lt_zero _)⟩
  case round =>
    obtain ⟨k, rfl, hk, HJ⟩ := hrel
    by_cases hlt : k < s.size
    · have hki : (k : Int) < (s.size : Int) := by omega
      have HT := Lib.hid (show tgWB s[k] = (inB (s[k].toNat : Int) 97 104 || decide ((s[k].toNat : Int) = 122)) from rfl)
      have hb : (s[k].toNat : Int) ≤ 255 := by have := s[k].toNat_lt; omega
      cases h1 : inB (s[k].toNat : Int) 97 104
      · have H1 := Lib.hid h1
        by_cases h2 : (s[k].toNat : Int) = 122
        · have HT2 := Lib.hid (HT.out.trans (show _ = true by simp [h2]))
          have h3 : ((s[k].toNat : Int) == 122) = true := by simp [h2]
          go_wp2_with (go_at_call 88; ((with_reducible refine (l1In_any _ _ _ _).mono ?_); rintro y w2 ⟨rfl, rfl⟩))
          go_round
          case rel =>
            refine ⟨k + 1, by go_num, by omega, fun j hj h => ?_⟩
            by_cases e : j = k
            · subst e; exact HT2.out
            · exact HJ.out j hj (by omega)
          case measure => simp [intOf]; omega
        · have h3 : ((s[k].toNat : Int) == 122) = false := by simpa using h2
          have HT2 := Lib.hid (HT.out.trans (show _ = false by rw [H1.out]; simp [h2]))
          go_wp2_with (go_at_call 88; ((with_reducible refine (l1In_any _ _ _ _).mono ?_); rintro y w2 ⟨rfl, rfl⟩))
          go_ret
          exact ⟨retB (allT_no hlt HT2.out).symm, rfl⟩
      · have H1 := Lib.hid h1
        have HT2 := Lib.hid (HT.out.trans (show _ = true by rw [H1.out]; rfl))
        go_wp2_with (go_at_call 88; ((with_reducible refine (l1In_any _ _ _ _).mono ?_); rintro y w2 ⟨rfl, rfl⟩))
        go_round
        case rel =>
          refine ⟨k + 1, by go_num, by omega, fun j hj h => ?_⟩
          by_cases e : j = k
          · subst e; exact HT2.out
          · exact HJ.out j hj (by omega)
        case measure => simp [intOf]; omega
    · go_wp2_with fail
      go_ret
      exact ⟨retB ((allT_iff s).2 fun i hi => HJ.out i hi (by omega)).symm, rfl⟩

set_option maxHeartbeats 400000 in
theorem l1KeyU_any (n : Int) (w : World) : Calls Tryd.prog 83 #[.int .i64 n] w fun e w' => e = .returned (.bool (keyB n)) ∧ w = w' := by
  have hcall : ∀ W, Calls Tryd.prog 88 #[.int .i64 n, .int .i64 0, .int .i64 31] W fun e w' => e = .returned (.bool (keyB n)) ∧ W = w' := fun W => l1In_any n 0 31 W
  have HCL := Lib.hid hcall
  clear hcall
  go_enter Tryd.func83, Tryd.ntmps83
  go_wp2_with (go_at_call 88; refine (HCL.out _).mono ?_; rintro y w2 ⟨rfl, rfl⟩)
  go_ret
  exact ⟨rfl, rfl⟩

set_option maxRecDepth 100000 in
set_option maxHeartbeats 1000000 in
theorem specLook_any (s : ByteArray) (low key : Int) (w : World) (hs : s.size ≤ 1048576) : Calls Tryd.prog 28 #[.string s, .int .i64 low, .int .i64 key] w fun e w' => e = .returned (.tuple #[.string (lookS s low key), .bool (lookOK s low key)]) ∧ w = w' := by
  have ht := fun W => l6Targets_any s W hs
  have hl := fun W => l1KeyU_any low W
  have hk := fun W => l1KeyU_any key W
  cases q1 : allT s
  · simp only [q1] at ht
    have HT := Lib.hid ht
    have Q1 := Lib.hid q1
    clear ht hl hk q1
    go_enter Tryd.func28, Tryd.ntmps28
    go_wp2_with (go_at_call 82; refine (HT.out _).mono ?_; rintro y w2 ⟨rfl, rfl⟩)
    go_ret2
    exact ⟨ret2u (lookS_no (lookOK_no1 Q1.out)).symm (lookOK_no1 Q1.out).symm, rfl⟩
  · simp only [q1] at ht
    have HT := Lib.hid ht
    have Q1 := Lib.hid q1
    clear ht q1
    cases q2 : keyB low
    · simp only [q2] at hl
      have HL := Lib.hid hl
      have Q2 := Lib.hid q2
      clear hl hk q2
      go_enter Tryd.func28, Tryd.ntmps28
      go_wp2_with (first
        | (go_at_call 82; refine (HT.out _).mono ?_; rintro y w2 ⟨rfl, rfl⟩)
        | (go_at_call 83; ((with_reducible refine (HL.out _).mono ?_); rintro y w2 ⟨rfl, rfl⟩)))
      go_ret2
      exact ⟨ret2u (lookS_no (lookOK_no2 Q2.out)).symm (lookOK_no2 Q2.out).symm, rfl⟩
    · simp only [q2] at hl
      have HL := Lib.hid hl
      have Q2 := Lib.hid q2
      obtain ⟨l0, l1⟩ : 0 ≤ low ∧ low ≤ 31 := by simpa [keyB] using q2
      clear hl q2
      cases q3 : keyB key
      · simp only [q3] at hk
        have HK := Lib.hid hk
        have Q3 := Lib.hid q3
        clear hk q3
        go_enter Tryd.func28, Tryd.ntmps28
        go_wp2_with (first
          | (go_at_call 82; refine (HT.out _).mono ?_; rintro y w2 ⟨rfl, rfl⟩)
          | (go_at_call 83; ((with_reducible refine (HL.out _).mono ?_); rintro y w2 ⟨rfl, rfl⟩))
          | (go_at_call 83; ((with_reducible refine (HK.out _).mono ?_); rintro y w2 ⟨rfl, rfl⟩)))
        go_ret2
        exact ⟨ret2u (lookS_no (lookOK_no3 Q3.out)).symm (lookOK_no3 Q3.out).symm, rfl⟩
      · simp only [q3] at hk
        have HK := Lib.hid hk
        have Q3 := Lib.hid q3
        obtain ⟨k0, k1⟩ : 0 ≤ key ∧ key ≤ 31 := by simpa [keyB] using q3
        clear hk q3
        by_cases q4 : low + s.size ≤ 32
        · have HOK := Lib.hid (lookOK_yes Q1.out Q2.out Q3.out q4)
          have hs32 : (s.size : Int) ≤ 32 := by omega
          by_cases q5 : key < low
          · have HLS := Lib.hid (show lookS s low key = zU by rw [lookS, if_pos HOK.out, if_neg (by omega)])
            go_enter Tryd.func28, Tryd.ntmps28
            go_wp2_with (first
              | (go_at_call 82; refine (HT.out _).mono ?_; rintro y w2 ⟨rfl, rfl⟩)
              | (go_at_call 83; ((with_reducible refine (HL.out _).mono ?_); rintro y w2 ⟨rfl, rfl⟩))
              | (go_at_call 83; ((with_reducible refine (HK.out _).mono ?_); rintro y w2 ⟨rfl, rfl⟩)))
            go_ret2
            exact ⟨ret2u HLS.out.symm HOK.out.symm, rfl⟩
          · by_cases q6 : low + s.size ≤ key
            · have HLS := Lib.hid (show lookS s low key = zU by rw [lookS, if_pos HOK.out, if_neg (by omega)])
              go_enter Tryd.func28, Tryd.ntmps28
              go_wp2_with (first
                | (go_at_call 82; refine (HT.out _).mono ?_; rintro y w2 ⟨rfl, rfl⟩)
                | (go_at_call 83; ((with_reducible refine (HL.out _).mono ?_); rintro y w2 ⟨rfl, rfl⟩))
                | (go_at_call 83; ((with_reducible refine (HK.out _).mono ?_); rintro y w2 ⟨rfl, rfl⟩)))
              go_ret2
              exact ⟨ret2u HLS.out.symm HOK.out.symm, rfl⟩
            · have HLS := Lib.hid (show lookS s low key = s.extract (key - low).toNat ((key - low).toNat + 1) by rw [lookS, if_pos HOK.out, if_pos (by omega)])
              have r1 : 0 ≤ key - low := by omega
              have r2 : key - low + 1 ≤ (s.size : Int) := by omega
              go_enter Tryd.func28, Tryd.ntmps28
              go_wp2_with (first
                | (go_at_call 82; refine (HT.out _).mono ?_; rintro y w2 ⟨rfl, rfl⟩)
                | (go_at_call 83; ((with_reducible refine (HL.out _).mono ?_); rintro y w2 ⟨rfl, rfl⟩))
                | (go_at_call 83; ((with_reducible refine (HK.out _).mono ?_); rintro y w2 ⟨rfl, rfl⟩)))
              go_ret2
              exact ⟨ret2u (HLS.out.trans (by congr 1; omega)).symm HOK.out.symm, rfl⟩
        · have HOK := Lib.hid (lookOK_no4 (low := low) (key := key) q4)
          have q4' : 32 < low + (s.size : Int) := by omega
          go_enter Tryd.func28, Tryd.ntmps28
          go_wp2_with (first
            | (go_at_call 82; refine (HT.out _).mono ?_; rintro y w2 ⟨rfl, rfl⟩)
            | (go_at_call 83; ((with_reducible refine (HL.out _).mono ?_); rintro y w2 ⟨rfl, rfl⟩))
            | (go_at_call 83; ((with_reducible refine (HK.out _).mono ?_); rintro y w2 ⟨rfl, rfl⟩)))
          go_ret2
          exact ⟨ret2u (lookS_no HOK.out).symm HOK.out.symm, rfl⟩

/-! the program -/
def rdF (s : ByteArray) (low : Nat) : Nat → Int := fun i => if h : low ≤ i ∧ i < low + s.size then (s[i - low].toNat : Int) else 0
/-- The row behind k bytes. -/
def rdK (s : ByteArray) (low k : Nat) : Nat → Int := fun i => if i < low + k then rdF s low i else 0
theorem rdK_zero (s : ByteArray) (low : Nat) : rdK s low 0 = fun _ => 0 := by
  funext i
  unfold rdK rdF
  split
  · rw [dif_neg (by omega)]
  · rfl
theorem rdK_succ (s : ByteArray) (low : Nat) {k : Nat} (h : k < s.size) : (fun i => if i = low + k then (s[k].toNat : Int) else rdK s low k i) = rdK s low (k + 1) := by
  funext i
  unfold rdK
  by_cases e : i = low + k
  · subst e
    rw [if_pos rfl, if_pos (by omega), rdF, dif_pos (by omega)]
    congr 2
    simp
  · rw [if_neg e]
    by_cases h2 : i < low + k
    · rw [if_pos h2, if_pos (by omega)]
    · rw [if_neg h2, if_neg (by omega)]
theorem rdK_full (s : ByteArray) (low : Nat) : rdK s low s.size = rdF s low := by
  funext i
  unfold rdK
  split
  · rfl
  · rw [rdF, dif_neg (by omega)]
def rdB (s : ByteArray) (low : Int) : Bool := keyB low && decide (low + s.size ≤ 32) && allT s
def rdR (s : ByteArray) (low : Int) : Nat → Int := if rdB s low = true then rdF s low.toNat else fun _ => 0
theorem tvalidU_any (c : UInt8) (w : World) : Calls Tryd.prog 124 #[.int .u8 (c.toNat : Int)] w fun e w' => e = .returned (.bool (tgWB c)) ∧ w = w' := by
  have hcall := fun W => ofCase_any (c.toNat : Int) W
  have HD := Lib.hid (show tgWB c = (tgtB (c.toNat : Int) || decide ((c.toNat : Int) = 122)) from rfl)
  obtain ⟨n, hn⟩ : ∃ n : Int, n = (c.toNat : Int) := ⟨_, rfl⟩
  rw [← hn] at hcall HD ⊢
  clear hn
  cases h1 : tgtB n
  · simp only [h1] at hcall
    have HC := Lib.hid hcall
    have H1 := Lib.hid h1
    clear hcall h1
    by_cases h2 : n = 122
    · subst h2
      go_enter Tryd.func124, Tryd.ntmps124
      go_wp2_with (go_at_call 122; refine (HC.out _).mono ?_; rintro y w2 ⟨rfl, rfl⟩)
      go_ret
      exact ⟨retB (by rw [HD.out]; rfl), rfl⟩
    · have h3 : (n == 122) = false := by simpa using h2
      go_enter Tryd.func124, Tryd.ntmps124
      go_wp2_with (go_at_call 122; refine (HC.out _).mono ?_; rintro y w2 ⟨rfl, rfl⟩)
      go_ret
      exact ⟨retB (by rw [HD.out, H1.out]; simp [h2]), rfl⟩
  · simp only [h1] at hcall
    have HC := Lib.hid hcall
    have H1 := Lib.hid h1
    clear hcall h1
    go_enter Tryd.func124, Tryd.ntmps124
    go_wp2_with (go_at_call 122; refine (HC.out _).mono ?_; rintro y w2 ⟨rfl, rfl⟩)
    go_ret
    exact ⟨retB (by rw [HD.out, H1.out]; rfl), rfl⟩

theorem results_row2 {fn : Func} {p u : Tmp} (h : fn.results = #[.cell p 93, .tmp u]) (tmps : Array Value) (w : World) (g : Nat) (f : Nat → Int) (b : Bool)
    (hp : tmps.getD p undef = .pointer (some ⟨g, 0, none⟩)) (hb : tmps.getD u undef = .bool b) (hg : RowU w g f) : (results fn tmps).run Tryd.prog w = .ok (.tuple #[.agg (rowA f), .bool b]) w := by
  rw [results_cell_tmp h, hp, hb]
  simp [asAddr, Result.andThen, run_loadVar_row w g 93 93 (rowA f) (0, 0) _ hg Tryd.underlying93 rfl (infoRowA f)]
theorem rdR_no {s : ByteArray} {low : Int} (h : rdB s low = false) : rdR s low = fun _ => 0 := by rw [rdR, if_neg (by rw [h]; exact Bool.false_ne_true)]

set_option maxRecDepth 100000 in
set_option maxHeartbeats 1000000 in
theorem readRow_any (s : ByteArray) (low : Int) (w : World) (hs : s.size ≤ 1048576) :
    Calls Tryd.prog 78 #[.string s, .int .i64 low] w fun e w' => e = .returned (.tuple #[.agg (rowA (rdR s low)), .bool (rdB s low)]) ∧ Below w.heap.size w w' := by
  have hl := fun W => isKey_any low W
  have hz : (rowA fun _ => 0).size = 32 := rowA_size _
  cases q2 : keyB low
  · simp only [q2] at hl
    have HL := Lib.hid hl
    have HB := Lib.hid (show rdB s low = false by simp [rdB, q2])
    have HZ := Lib.hid hz
    clear hl q2 hz
    go_enter Tryd.func78, Tryd.ntmps78
    go_wp2_with (first
      | (go_at_call 79; refine (HL.out _).mono ?_; rintro y w2 ⟨rfl, rfl⟩)
      | (refine wpList_store_row rfl 93 (.tmp 4) (.tmp 19) rfl w.heap.size (rowA fun _ => 0) rfl rfl 93 _ (heap_alloc_new _ _) (infoRowA _) (by rw [HZ.out]; rfl) (rowA_one _) ?_; rw [World.setRow_alloc_new]))
    refine bodyPost_ret (results_row2 rfl _ _ w.heap.size (fun _ => 0) false rfl rfl (heap_alloc_new _ _)) rfl ⟨?_, (Below.refl _ _).alloc (Nat.le_refl _) _⟩
    rw [HB.out, rdR_no HB.out]
  · simp only [q2] at hl
    have HL := Lib.hid hl
    have Q2 := Lib.hid q2
    have HZ := Lib.hid hz
    obtain ⟨l0, l1⟩ : 0 ≤ low ∧ low ≤ 31 := by simpa [keyB] using q2
    clear hl q2 hz
    by_cases q4 : low + s.size ≤ 32
    · obtain ⟨ln, rfl⟩ : ∃ ln : Nat, low = ln := ⟨low.toNat, by omega⟩
      have hs32 : (s.size : Int) ≤ 32 - (ln : Int) := by omega
      have hs33 : (s.size : Int) ≤ 32 := by omega
      go_enter Tryd.func78, Tryd.ntmps78
      go_wp2_with (first
        | (go_at_call 79; refine (HL.out _).mono ?_; rintro y w2 ⟨rfl, rfl⟩))
      rw [← zero_row]
      obtain ⟨W0, hW0⟩ : ∃ W0, W0 = (w.alloc (.cells (rowA fun _ => 0) 93)).alloc (.cells (rowA fun _ => 0) 93) := ⟨_, rfl⟩
      have hY : RowU W0 w.heap.size (fun _ => 0) := by rw [hW0]; exact RowU.alloc (heap_alloc_new _ _) _
      have hX : RowU W0 (w.heap.size + 1) (fun _ => 0) := by
        have := heap_alloc_new (w.alloc (.cells (rowA fun _ => 0) 93)) (.cells (rowA fun _ => 0) 93)
        rw [hW0]
        simpa [RowU] using this
      have hB0 : Below w.heap.size w W0 := by rw [hW0]; exact ((Below.refl _ _).alloc (Nat.le_refl _) _).alloc (by simp) _
      rw [← hW0]
      have HX0 := Lib.hid hX
      have HY0 := Lib.hid hY
      have HB0 := Lib.hid hB0
      clear hW0 hX hY hB0
      go_loopw [22] (fun i wr => ∃ k : Nat, i = .int .i64 k ∧ k ≤ s.size ∧ Hid (∀ j (h : j < s.size), j < k → tgWB s[j] = true) ∧ Hid (RowU wr (w.heap.size + 1) (rdK s ln k)) ∧ Hid (RowU wr w.heap.size (fun _ => 0)) ∧ Hid (Below w.heap.size w wr)) (fun i _ => s.size - (intOf i).toNat)
      case atStart => exact ⟨0, rfl, Nat.zero_le _, fun j _ h => absurd h (Nat.not_lt_zero _), by rw [rdK_zero]; exact HX0.out, HY0.out, HB0.out⟩
      case round =>
        obtain ⟨k, rfl, hk, HJ, HX, HY, HB⟩ := hrel
        by_cases hlt : k < s.size
        · have hki : (k : Int) < (s.size : Int) := by omega
          have hcall := fun W => tvalidU_any s[k] W
          have HS := Lib.hid (rdK_succ s ln hlt)
          have hb : (s[k].toNat : Int) ≤ 255 := by have := s[k].toNat_lt; omega
          have y0 := HX.out.cell (k := ln + k) (by omega)
          have y1 := HX.out.frozen (ln + k)
          obtain ⟨u, hu⟩ : ∃ u, u = Value.int .u8 (rdK s ln k (ln + k)) := ⟨_, rfl⟩
          rw [← hu] at y0
          have hxl := HX.out.lt
          have e1 : ((ln : Int) + (k : Int)).toNat = ln + k := by omega
          clear hu
          cases q6 : tgWB s[k]
          · simp only [q6] at hcall
            have HC := Lib.hid hcall
            have HB2 := Lib.hid (show rdB s ln = false by simp [rdB, allT_no hlt q6])
            clear hcall q6
            go_wp2_with (first
              | (go_at_call 124; refine (HC.out _).mono ?_; rintro y w2 ⟨rfl, rfl⟩)
              | (refine wpList_store_row rfl 93 (.tmp 4) (.tmp 31) rfl w.heap.size (rowA fun _ => 0) rfl rfl 93 _ HY.out (infoRowA _) rfl (rowA_one _) ?_))
            refine bodyPost_ret (results_row2 rfl _ _ w.heap.size (fun _ => 0) false rfl rfl (setRow_heap _ _ _ _ _ _ HY.out)) rfl ⟨?_, below_setRow HB.out (Nat.le_refl _) _⟩
            rw [HB2.out, rdR_no HB2.out]
          · simp only [q6] at hcall
            have HC := Lib.hid hcall
            have HQ := Lib.hid q6
            clear hcall q6
            go_wp2_with (first
              | (go_at_call 124; refine (HC.out _).mono ?_; rintro y w2 ⟨rfl, rfl⟩))
            go_roundw
            case rel =>
              refine ⟨k + 1, by go_num, by omega, fun j hj h => ?_, ?_, ?_, HB.out.setCell (p := ⟨w.heap.size + 1, ln + k, none⟩) (by show w.heap.size ≤ w.heap.size + 1; omega) _⟩
              · by_cases e : j = k
                · subst e; exact HQ.out
                · exact HJ.out j hj (by omega)
              · show RowU _ _ _
                rw [← HS.out]
                exact HX.out.set (ln + k) _
              · exact HY.out.kept (grownBy_setCellK _ _ _ _) (fun e => by have := Option.some.inj e; omega)
            case measure => simp [intOf]; omega
        · obtain rfl : k = s.size := by omega
          have HB2 := Lib.hid (show rdB s ln = true by
            simp only [rdB, Q2.out, Bool.true_and, Bool.and_eq_true, decide_eq_true_eq]
            exact ⟨q4, (allT_iff s).2 fun i hi => HJ.out i hi (by omega)⟩)
          go_wp2_with (first
            | (refine wpList_load_row rfl 93 (.tmp 6) rfl (w.heap.size + 1) rfl 93 _ _ _ HX.out Tryd.underlying93 rfl (infoRowA _) ?_)
            | (refine wpList_store_row rfl 93 (.tmp 4) (.tmp 38) rfl w.heap.size (rowA (rdK s ln s.size)) rfl rfl 93 _ HY.out (infoRowA _) (by rw [rowA_size, rowA_size]) (rowA_one _) ?_))
          refine bodyPost_ret (results_row2 rfl _ _ w.heap.size (rdK s ln s.size) true rfl rfl (setRow_heap _ _ _ _ _ _ HY.out)) rfl ⟨?_, below_setRow HB.out (Nat.le_refl _) _⟩
          rw [HB2.out, rdR, if_pos HB2.out, rdK_full]
          rfl
    · have HB := Lib.hid (show rdB s low = false by simp [rdB, q4])
      have q5 : 32 - low < (s.size : Int) := by omega
      clear q4
      go_enter Tryd.func78, Tryd.ntmps78
      go_wp2_with (first
        | (go_at_call 79; refine (HL.out _).mono ?_; rintro y w2 ⟨rfl, rfl⟩)
        | (refine wpList_store_row rfl 93 (.tmp 4) (.tmp 19) rfl w.heap.size (rowA fun _ => 0) rfl rfl 93 _ (heap_alloc_new _ _) (infoRowA _) (by rw [HZ.out]; rfl) (rowA_one _) ?_; rw [World.setRow_alloc_new]))
      refine bodyPost_ret (results_row2 rfl _ _ w.heap.size (fun _ => 0) false rfl rfl (heap_alloc_new _ _)) rfl ⟨?_, (Below.refl _ _).alloc (Nat.le_refl _) _⟩
      rw [HB.out, rdR_no HB.out]
end Go.Proofs.YtbbejkimgkpfkaaDoor
