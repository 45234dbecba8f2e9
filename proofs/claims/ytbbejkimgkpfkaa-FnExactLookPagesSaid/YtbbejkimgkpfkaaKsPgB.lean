
/- LookPages: what pages and their index are; arePages, isIndex of the program. -/
import Derived.Test.YtbbejkimgkpfkaaKsPgA
import Derived.Test.YtbbejkimgkpfkaaKsStrA
import Derived.Test.YtbbejkimgkpfkaaKsLookI
import Derived.Shelf.Abstract
namespace Go.Proofs.Ytbbejkimgkpfkaa
open Go.RowKit Go.Sort Go.Shelf

def pgB (o : Array ByteArray) : Bool := decide (0 < o.size) && sizeB (o[0]!.size : Int) && (List.range o.size).all fun j => allT o[j]! && decide (o[j]!.size = o[0]!.size)
def ixB (o : Array ByteArray) (x : Array Int) : Bool := decide (x.size * o[0]!.size = 32) && (List.range x.size).all fun j => decide (0 ≤ x[j]! ∧ x[j]! < o.size)
theorem pgB_iff (o : Array ByteArray) : pgB o = true ↔ 0 < o.size ∧ sizeB (o[0]!.size : Int) = true ∧ ∀ j, j < o.size → allT o[j]! = true ∧ o[j]!.size = o[0]!.size := by
  simp only [pgB, Bool.and_eq_true, decide_eq_true_eq, List.all_eq_true, List.mem_range, and_assoc]
theorem ixB_iff (o : Array ByteArray) (x : Array Int) : ixB o x = true ↔ x.size * o[0]!.size = 32 ∧ ∀ j, j < x.size → 0 ≤ x[j]! ∧ x[j]! < o.size := by
  simp only [ixB, Bool.and_eq_true, decide_eq_true_eq, List.all_eq_true, List.mem_range]
theorem pgB_no {o : Array ByteArray} (h : ¬ (0 < o.size ∧ sizeB (o[0]!.size : Int) = true ∧ ∀ j, j < o.size → allT o[j]! = true ∧ o[j]!.size = o[0]!.size)) : pgB o = false := by
  cases hq : pgB o with
  | false => rfl
  | true => exact absurd ((pgB_iff o).1 hq) h
theorem ixB_no {o : Array ByteArray} {x : Array Int} (h : ¬ (x.size * o[0]!.size = 32 ∧ ∀ j, j < x.size → 0 ≤ x[j]! ∧ x[j]! < o.size)) : ixB o x = false := by
  cases hq : ixB o x with
  | false => rfl
  | true => exact absurd ((ixB_iff o x).1 hq) h
theorem sizeB_le {n : Nat} (h : sizeB (n : Int) = true) : 1 ≤ n ∧ n ≤ 32 := by
  have := (sizeB_iff _).1 h
  omega

set_option maxRecDepth 100000 in
set_option maxHeartbeats 2000000 in
theorem arePages_any (b off cap : Nat) (o : Array ByteArray) (w : World) (hR : RowT w b off o) (hn : o.size ≤ 1048576) (hs : ∀ j, j < o.size → o[j]!.size ≤ 1048576) :
    Calls Try.prog 22 #[.slice (some ⟨b, off, none⟩) o.size cap] w fun x w' => x = .returned (.bool (pgB o)) ∧ Below w.heap.size w w' := by
  have HR := Lib.hid hR
  have HS := Lib.hid hs
  have hmi : (o.size : Int) ≤ 1048576 := by omega
  clear hR hs
  by_cases h0 : o.size = 0
  · have h0i : (o.size : Int) = 0 := by omega
    have HP := Lib.hid (pgB_no (o := o) (fun h => by omega))
    clear h0
    go_enter Try.func22, Try.ntmps22
    go_wp2_with fail
    go_ret
    exact ⟨retB HP.out.symm, Below.refl _ _⟩
  · have h1 : 0 < o.size := by omega
    have h0i : ¬ (o.size : Int) = 0 := by omega
    have h0p : (0 : Int) < (o.size : Int) := by omega
    have h0b : ((o.size : Int) == 0) = false := by simpa using h0i
    have HP0 := Lib.hid (fun h => pgB_no (o := o) h)
    have HPY := Lib.hid (fun h => (pgB_iff o).2 h)
    have x0 := HR.out.cell 0 h1
    rw [Nat.add_zero] at x0
    have hs0 := HS.out 0 h1
    have HRD := Lib.hid (fun j W (hj : j < o.size) => readRow_any o[j]! 0 W (HS.out j hj))
    obtain ⟨s0, hs0e⟩ : ∃ s0, s0 = o[0]! := ⟨_, rfl⟩
    rw [← hs0e] at x0 hs0 HP0 HPY
    have HS0 := Lib.hid hs0e
    have X0 := Lib.hid x0
    have hbl := HR.out.old
    have hz := fun W => isPageSize_any (s0.size : Int) W
    clear hs0e h0 h0i
    cases q1 : sizeB (s0.size : Int)
    · simp only [q1] at hz
      have HZ := Lib.hid hz
      have HP := Lib.hid (HP0.out (fun h => by rw [q1] at h; exact Bool.false_ne_true h.2.1))
      clear hz q1
      go_enter Try.func22, Try.ntmps22
      go_wp2_with (go_at_call 25; refine (HZ.out _).mono ?_; rintro y w2 ⟨rfl, hb2⟩; have HB2 := Lib.hid hb2; clear hb2)
      go_ret
      exact ⟨retB HP.out.symm, HB2.out⟩
    · simp only [q1] at hz
      have HZ := Lib.hid hz
      have Q1 := Lib.hid q1
      have hs32 := sizeB_le q1
      have hs33 : (s0.size : Int) ≤ 32 := by omega
      clear hz q1
      go_enter Try.func22, Try.ntmps22
      go_wp2_with (go_at_call 25; refine (HZ.out _).mono ?_; rintro y w2 ⟨rfl, hb2⟩; have HB2 := Lib.hid hb2; clear hb2)
      clear x0
      go_loopw [20] (fun i wr => ∃ k : Nat, i = .int .i64 k ∧ k ≤ o.size ∧ Hid (∀ j, j < k → allT o[j]! = true ∧ o[j]!.size = s0.size) ∧ Hid (Below w.heap.size w wr)) (fun i _ => o.size - (RowKit.intOf i).toNat)
      case atStart => exact ⟨0, rfl, Nat.zero_le _, fun j hj => absurd hj (Nat.not_lt_zero _), HB2⟩
      case round =>
        obtain ⟨k, rfl, hk, HJ, HB⟩ := hrel
        by_cases hlt : k < o.size
        · have hki : (k : Int) < (o.size : Int) := by omega
          have y0 := (HB.out.cell (p := ⟨b, off, none⟩) hbl).trans X0.out
          have y1 := (HR.out.below HB.out).cell k hlt
          have hsk := HS.out k hlt
          have hrd := HRD.out k wr hlt
          have HNK := Lib.hid (fun (h : ¬ (allT o[k]! = true ∧ o[k]!.size = s0.size)) => HP0.out (fun hh => h (hh.2.2 k hlt)))
          obtain ⟨s, hse⟩ : ∃ s, s = o[k]! := ⟨_, rfl⟩
          rw [← hse] at y1 hsk hrd HNK
          have XE := Lib.hid hse
          have hski : (s.size : Int) ≤ 1048576 := by omega
          obtain ⟨f, hf⟩ : ∃ f, f = rdR s 0 := ⟨_, rfl⟩
          rw [← hf] at hrd
          have HB0 := Lib.hid (show rdB s 0 = (decide ((0 : Int) + s.size ≤ 32) && allT s) from rfl)
          clear hse hf
          by_cases q2 : rdB s 0 = true
          · rw [q2] at hrd
            have HRR := Lib.hid hrd
            have hall : allT s = true := by rw [HB0.out] at q2; simp at q2; exact q2.2
            have HAL := Lib.hid hall
            clear hrd q2 hall
            by_cases q3 : s.size = s0.size
            · have q3b : ((s.size : Int) == (s0.size : Int)) = true := by simp [q3]
              have q3c : ((s.size : Int) != (s0.size : Int)) = false := by simp [q3]
              have Q3 := Lib.hid q3
              clear q3
              go_wp2_with (first
                | (go_at_call 16; refine HRR.out.mono ?_; rintro x w3 ⟨rfl, hb3⟩; have HB3 := Lib.hid (HB.out.trans (hb3.mono HB.out.size)); have hlt3 : b < w3.heap.size := Nat.lt_of_lt_of_le hbl HB3.out.size; have z0 := (hb3.cell (p := ⟨b, off, none⟩) (Nat.lt_of_lt_of_le hbl HB.out.size)).trans y0; clear hb3)
                | (refine wpList_store_row rfl 38 (.tmp 5) (.tmp 27) rfl w3.heap.size (rowA f) rfl rfl 38 _ (heap_alloc_new _ _) (infoRowA _) (by rw [rowA_size]; rfl) (rowA_one _) ?_; rw [World.setRow_alloc_new]))
              go_roundw
              case rel =>
                refine ⟨k + 1, by go_num, by omega, fun j hj => ?_, HB3.out.alloc HB3.out.size _⟩
                by_cases e : j = k
                · subst e; rw [← XE.out]; exact ⟨HAL.out, Q3.out⟩
                · exact HJ.out j (by omega)
              case measure => simp [RowKit.intOf]; omega
            · have q3b : ((s.size : Int) == (s0.size : Int)) = false := by simp; omega
              have q3c : ((s.size : Int) != (s0.size : Int)) = true := by simp; omega
              have HP := Lib.hid (HNK.out (fun h => q3 h.2))
              clear q3
              go_wp2_with (first
                | (go_at_call 16; refine HRR.out.mono ?_; rintro x w3 ⟨rfl, hb3⟩; have HB3 := Lib.hid (HB.out.trans (hb3.mono HB.out.size)); have hlt3 : b < w3.heap.size := Nat.lt_of_lt_of_le hbl HB3.out.size; have z0 := (hb3.cell (p := ⟨b, off, none⟩) (Nat.lt_of_lt_of_le hbl HB.out.size)).trans y0; clear hb3)
                | (refine wpList_store_row rfl 38 (.tmp 5) (.tmp 27) rfl w3.heap.size (rowA f) rfl rfl 38 _ (heap_alloc_new _ _) (infoRowA _) (by rw [rowA_size]; rfl) (rowA_one _) ?_; rw [World.setRow_alloc_new]))
              go_ret
              exact ⟨retB HP.out.symm, HB3.out.alloc HB3.out.size _⟩
          · have q2' : rdB s 0 = false := by simpa using q2
            have HP := Lib.hid (HNK.out (fun h => q2 (by rw [HB0.out, h.1, h.2]; simp; omega)))
            rw [q2'] at hrd
            have HRR := Lib.hid hrd
            clear hrd q2 q2'
            go_wp2_with (first
                | (go_at_call 16; refine HRR.out.mono ?_; rintro x w3 ⟨rfl, hb3⟩; have HB3 := Lib.hid (HB.out.trans (hb3.mono HB.out.size)); have hlt3 : b < w3.heap.size := Nat.lt_of_lt_of_le hbl HB3.out.size; have z0 := (hb3.cell (p := ⟨b, off, none⟩) (Nat.lt_of_lt_of_le hbl HB.out.size)).trans y0; clear hb3)
                | (refine wpList_store_row rfl 38 (.tmp 5) (.tmp 27) rfl w3.heap.size (rowA f) rfl rfl 38 _ (heap_alloc_new _ _) (infoRowA _) (by rw [rowA_size]; rfl) (rowA_one _) ?_; rw [World.setRow_alloc_new]))
            go_ret
            exact ⟨retB HP.out.symm, HB3.out.alloc HB3.out.size _⟩
        · have hki : ¬ (k : Int) < (o.size : Int) := by omega
          have HP := Lib.hid (HPY.out ⟨h1, Q1.out, fun j hj => HJ.out j (by omega)⟩)
          go_wp2_with fail
          go_ret
          exact ⟨retB HP.out.symm, HB.out⟩

/-! the index -/
def badN (n : Int) (m : Nat) : Bool := decide (n < 0 ∨ (m : Int) ≤ n)
set_option maxRecDepth 100000 in
set_option maxHeartbeats 1000000 in
theorem bad_any (n : Int) (X : Nat) (v : Option Addr) (m cap : Nat) (w : World) (hX : w.cell? ⟨X, 0, none⟩ = some (.slice v m cap)) (hm : m ≤ 1048576) :
    Calls Try.prog 27 #[.int .i64 n, .pointer (some ⟨X, 0, none⟩)] w fun x w' => x = .returned (.bool (badN n m)) ∧ w = w' := by
  have hmi : (m : Int) ≤ 1048576 := by omega
  by_cases h : n < 0
  · have HB := Lib.hid (show badN n m = true by simp [badN, h])
    go_enter Try.func27, Try.ntmps27
    go_wp2_with fail
    go_ret
    exact ⟨retB HB.out.symm, rfl⟩
  · by_cases h2 : (m : Int) ≤ n
    · have HB := Lib.hid (show badN n m = true by simp [badN, h2])
      go_enter Try.func27, Try.ntmps27
      go_wp2_with fail
      go_ret
      exact ⟨retB HB.out.symm, rfl⟩
    · have HB := Lib.hid (show badN n m = false by simp [badN]; omega)
      go_enter Try.func27, Try.ntmps27
      go_wp2_with fail
      go_ret
      exact ⟨retB HB.out.symm, rfl⟩

def FoundB (o : Array Int) (m : Nat) (x : Ending) : Prop := (∃ k : Nat, k < o.size ∧ badN o[k]! m = true ∧ x = .returned (.int .i64 k)) ∨ ((∀ j, j < o.size → badN o[j]! m = false) ∧ x = .returned (.int .i64 (-1)))
set_option maxRecDepth 100000 in
set_option maxHeartbeats 1000000 in
theorem indexB_any (b off cap : Nat) (o : Array Int) (X : Nat) (v : Option Addr) (m c2 : Nat) (w : World) (hR : RowN w b off o) (hn : o.size ≤ 1048576) (hX : w.cell? ⟨X, 0, none⟩ = some (.slice v m c2)) (hm : m ≤ 1048576) :
    Calls Try.prog 31 #[.slice (some ⟨b, off, none⟩) o.size cap, .func (.func 27) #[] #[.pointer (some ⟨X, 0, none⟩)]] w fun x w' => FoundB o m x ∧ w = w' := by
  have HR := Lib.hid hR
  have hmi : (o.size : Int) ≤ 1048576 := by omega
  have HCB := Lib.hid (fun n => bad_any n X v m c2 w hX hm)
  have hcl : ∀ args W, Sem.run Try.prog (callFunc 27 args) W = .ok (.enter 27 args) W := fun args W => enters_of Try.func27 (by kernel_rfl) rfl args W
  clear hR hX
  go_enter Try.func31, Try.ntmps31
  go_wp2_with fail
  go_loop [8] (fun i => ∃ k : Nat, i = .int .i64 k ∧ k ≤ o.size ∧ Hid (∀ j, j < k → badN o[j]! m = false)) (fun i => o.size - (RowKit.intOf i).toNat)
  case atStart => exact ⟨0, rfl, Nat.zero_le _, fun j hj => absurd hj (Nat.not_lt_zero _)⟩
  case round =>
    obtain ⟨k, rfl, hk, HJ⟩ := hrel
    by_cases hlt : k < o.size
    · have x0 := HR.out.cell k hlt
      have hcb := HCB.out o[k]!
      obtain ⟨x, hxe⟩ : ∃ x, x = o[k]! := ⟨_, rfl⟩
      rw [← hxe] at x0 hcb
      have XE := Lib.hid hxe
      have hki : (k : Int) < (o.size : Int) := by omega
      clear hxe
      cases hq : badN x m
      · rw [hq] at hcb
        have HC := Lib.hid hcb
        have HQ := Lib.hid hq
        clear hcb hq
        go_wp2_with (go_at_call 27; refine HC.out.mono ?_; rintro y w2 ⟨rfl, rfl⟩)
        go_round
        case rel =>
          refine ⟨k + 1, by go_num, by omega, fun j hj => ?_⟩
          by_cases e : j = k
          · subst e; rw [← XE.out]; exact HQ.out
          · exact HJ.out j (by omega)
        case measure => simp [RowKit.intOf]; omega
      · rw [hq] at hcb
        have HC := Lib.hid hcb
        have HQ := Lib.hid hq
        clear hcb hq
        go_wp2_with (go_at_call 27; refine HC.out.mono ?_; rintro y w2 ⟨rfl, rfl⟩)
        go_ret
        exact ⟨.inl ⟨k, hlt, by rw [← XE.out]; exact HQ.out, rfl⟩, rfl⟩
    · have hki : ¬ (k : Int) < (o.size : Int) := by omega
      go_wp2_with fail
      go_ret
      exact ⟨.inr ⟨fun j hj => HJ.out j (by omega), rfl⟩, rfl⟩
theorem containsB_any (b off cap : Nat) (o : Array Int) (X : Nat) (v : Option Addr) (m c2 : Nat) (c : Bool) (w : World) (hR : RowN w b off o) (hn : o.size ≤ 1048576) (hX : w.cell? ⟨X, 0, none⟩ = some (.slice v m c2)) (hm : m ≤ 1048576) (hc : c = true ↔ ∃ k, k < o.size ∧ badN o[k]! m = true) :
    Calls Try.prog 26 #[.slice (some ⟨b, off, none⟩) o.size cap, .func (.func 27) #[] #[.pointer (some ⟨X, 0, none⟩)]] w fun x w' => x = .returned (.bool c) ∧ w = w' := by
  have HI := Lib.hid (indexB_any b off cap o X v m c2 w hR hn hX hm)
  have HC := Lib.hid hc
  clear hR hc hX
  go_enter Try.func26, Try.ntmps26
  go_wp2_with fail
  refine HI.out.mono ?_
  rintro x w1 ⟨(⟨k, h1, h2, rfl⟩ | ⟨h1, rfl⟩), rfl⟩
  · have hk0 : (0 : Int) ≤ (k : Int) := by omega
    have HK := Lib.hid (show c = true from HC.out.2 ⟨k, h1, h2⟩)
    clear h2
    go_wp2_with fail
    go_ret
    exact ⟨retB HK.out.symm, rfl⟩
  · have HK := Lib.hid (show c = false by
      cases hq : c with
      | false => rfl
      | true => obtain ⟨k, h2, h3⟩ := HC.out.1 hq; rw [h1 k h2] at h3; cases h3)
    clear h1
    go_wp2_with fail
    go_ret
    exact ⟨retB HK.out.symm, rfl⟩

set_option maxRecDepth 100000 in
set_option maxHeartbeats 1000000 in
theorem isIndex_any (bp offp cp bx offx cx : Nat) (o : Array ByteArray) (x : Array Int) (w : World) (hP : RowT w bp offp o) (hX : RowN w bx offx x) (h0 : 0 < o.size) (h32 : o[0]!.size ≤ 32) (hn : o.size ≤ 1048576) (hxn : x.size ≤ 1048576) :
    Calls Try.prog 23 #[.slice (some ⟨bx, offx, none⟩) x.size cx, .slice (some ⟨bp, offp, none⟩) o.size cp] w fun y w' => y = .returned (.bool (ixB o x)) ∧ Below w.heap.size w w' := by
  have hmi : (o.size : Int) ≤ 1048576 := by omega
  have hxi : (x.size : Int) ≤ 1048576 := by omega
  have h0i : (0 : Int) < (o.size : Int) := by omega
  have p0 := hP.cell 0 h0
  rw [Nat.add_zero] at p0
  have hbp := hP.old
  have HNO := Lib.hid (fun h => ixB_no (o := o) (x := x) h)
  have HYES := Lib.hid (fun h => (ixB_iff o x).2 h)
  obtain ⟨s0, hs0⟩ : ∃ s0, s0 = o[0]! := ⟨_, rfl⟩
  rw [← hs0] at p0 h32 HNO HYES
  have h33 : (s0.size : Int) ≤ 32 := by omega
  obtain ⟨wa, hwa⟩ : ∃ wa, wa = w.alloc (.cells #[.slice (some ⟨bp, offp, none⟩) o.size cp] 25) := ⟨_, rfl⟩
  have hba : Below w.heap.size w wa := by rw [hwa]; exact (Below.refl _ _).alloc (Nat.le_refl _) _
  have c0 : wa.cell? ⟨w.heap.size, 0, none⟩ = some (.slice (some ⟨bp, offp, none⟩) o.size cp) := by rw [hwa]; simp
  have HC := Lib.hid (fun c hc => containsB_any bx offx cx x w.heap.size (some ⟨bp, offp, none⟩) o.size cp c wa (hX.below hba) hxn c0 hn hc)
  have HA := Lib.hid hba
  have HWA := Lib.hid hwa
  clear hwa hba hs0 hP hX c0
  have hmle : x.size * s0.size ≤ 1048576 * 32 := Nat.mul_le_mul hxn h32
  obtain ⟨n, hne⟩ : ∃ n, n = x.size * s0.size := ⟨_, rfl⟩
  have hmul : (x.size : Int) * (s0.size : Int) = (n : Int) := by rw [hne]; simp
  rw [← hne] at hmle HNO HYES
  have hni : (n : Int) ≤ 33554432 := by omega
  clear hne hmle
  by_cases h1 : n = 32
  · subst h1
    by_cases hall : ∀ j, j < x.size → badN x[j]! o.size = false
    · have HCC := Lib.hid (HC.out false ⟨(fun h => by cases h), (fun ⟨k, h2, h3⟩ => by rw [hall k h2] at h3; cases h3)⟩)
      have HP := Lib.hid (HYES.out ⟨rfl, fun j hj => by have := hall j hj; simp [badN] at this; omega⟩)
      clear hall
      go_enter Try.func23, Try.ntmps23
      go_wp2_with fail
      rw [← HWA.out]
      refine HCC.out.mono ?_
      rintro y w2 ⟨rfl, rfl⟩
      go_wp2_with fail
      go_ret
      exact ⟨retB HP.out.symm, HA.out⟩
    · have hex : ∃ j, j < x.size ∧ badN x[j]! o.size = true := by
        by_cases hh : ∃ j, j < x.size ∧ badN x[j]! o.size = true
        · exact hh
        · exact absurd (fun j hj => by
            cases hq : badN x[j]! o.size with
            | false => rfl
            | true => exact absurd ⟨j, hj, hq⟩ hh) hall
      have HCC := Lib.hid (HC.out true ⟨(fun _ => hex), (fun _ => rfl)⟩)
      have HP := Lib.hid (HNO.out (fun h => by
        obtain ⟨j, hj, hb⟩ := hex
        have := h.2 j hj
        simp only [badN, decide_eq_true_eq] at hb
        omega))
      clear hall hex
      go_enter Try.func23, Try.ntmps23
      go_wp2_with fail
      rw [← HWA.out]
      refine HCC.out.mono ?_
      rintro y w2 ⟨rfl, rfl⟩
      go_wp2_with fail
      go_ret
      exact ⟨retB HP.out.symm, HA.out⟩
  · have h1i : ((n : Int) == 32) = false := by simp; omega
    have HP := Lib.hid (HNO.out (fun h => h1 h.1))
    clear h1
    go_enter Try.func23, Try.ntmps23
    go_wp2_with fail

    go_ret
    exact ⟨retB HP.out.symm, (Below.refl _ _).alloc (Nat.le_refl _) _⟩
end Go.Proofs.Ytbbejkimgkpfkaa
