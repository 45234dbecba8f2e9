
/- FormatMask: eight digits to the base 16; the model's and the program's. -/
import Derived.Test.YtbhamkmiagdimaaGreatDoorKsBitP
import Derived.Shelf.Abstract
import Derived.Deep.WholeRow
import Derived.Laws.BytesArg
import Derived.Laws.BytesString
import Derived.RangeFuncRecord
import Derived.IntWalk
namespace Go.Proofs.YtbhamkmiagdimaaGreatDoor
open Go.RowKit Go.Shelf Go.Lib

def inH (n a b : Int) : Bool := decide (a ≤ n ∧ n ≤ b)
theorem retBH {a b : Bool} (h : a = b) : Ending.returned (.bool a) = .returned (.bool b) := by rw [h]
theorem retSH {a b : ByteArray} (h : a = b) : Ending.returned (.string a) = .returned (.string b) := by rw [h]
/-- A number is a word. -/
def isW (n : Int) : Bool := decide (0 ≤ n ∧ n ≤ 4294967295)

set_option maxHeartbeats 400000 in
theorem inH_any (n a b : Int) (w : World) : Calls Tryz.prog 83 #[.int .i64 n, .int .i64 a, .int .i64 b] w fun e w' => e = .returned (.bool (inH n a b)) ∧ w = w' := by
  by_cases h : a ≤ n
  · by_cases h2 : n ≤ b
    all_goals
      go_enter Tryz.func83, Tryz.ntmps83
      go_wp2
      go_ret
      exact ⟨retBH (by simp [inH]; omega), rfl⟩
  · go_enter Tryz.func83, Tryz.ntmps83
    go_wp2
    go_ret
    exact ⟨retBH (by simp [inH]; omega), rfl⟩
set_option maxHeartbeats 400000 in
theorem l7Word_any (n : Int) (w : World) : Calls Tryz.prog 69 #[.int .i64 n] w fun e w' => e = .returned (.bool (isW n)) ∧ w = w' := by
  have hcall : ∀ W, Calls Tryz.prog 83 #[.int .i64 n, .int .i64 0, .int .i64 4294967295] W fun e w' => e = .returned (.bool (isW n)) ∧ W = w' := fun W => inH_any n 0 4294967295 W
  have HCL := Lib.hid hcall
  clear hcall
  go_enter Tryz.func69, Tryz.ntmps69
  go_wp2_with (go_at_call 83; refine (HCL.out _).mono ?_; rintro y w2 ⟨rfl, rfl⟩)
  go_ret
  exact ⟨rfl, rfl⟩
def wrdZ (n : Int) : Int := if isW n = true then n else 0
theorem retWB {a c : Int} {b e : Bool} (h : a = c) (h2 : b = e) : Ending.returned (.tuple #[.int .u32 a, .bool b]) = .returned (.tuple #[.int .u32 c, .bool e]) := by rw [h, h2]
set_option maxHeartbeats 400000 in
theorem readWord_any (n : Int) (w : World) : Calls Tryz.prog 51 #[.int .i64 n] w fun e w' => e = .returned (.tuple #[.int .u32 (wrdZ n), .bool (isW n)]) ∧ w = w' := by
  by_cases h : 0 ≤ n ∧ n ≤ 4294967295
  · have hd : n / 4294967296 = 0 := by omega
    have hm : n % 4294967296 = n := by omega
    have HI := Lib.hid (show isW n = true by simp [isW]; omega)
    go_enter Tryz.func51, Tryz.ntmps51
    go_wp2
    go_ret2
    exact ⟨retWB (by simp [wrdZ, HI.out]; try omega) (by rw [HI.out]), rfl⟩
  · have hd : ¬ n / 4294967296 = 0 := by omega
    have HI := Lib.hid (show isW n = false by simp [isW]; omega)
    go_enter Tryz.func51, Tryz.ntmps51
    go_wp2
    go_ret2
    exact ⟨retWB (by simp [wrdZ, HI.out]) (by rw [HI.out]), rfl⟩

def hexD : ByteArray := ⟨#[48, 49, 50, 51, 52, 53, 54, 55, 56, 57, 97, 98, 99, 100, 101, 102]⟩
def hexB (v : Nat) : UInt8 := hexD.data[v]!
/-- The digit of a word that counts 16 to the power of k. -/
def hexK (m k : Nat) : UInt8 := hexB (m / 16 ^ k % 16)
def hexTo (m : Nat) : Nat → ByteArray
  | 0 => ⟨#[]⟩
  | n + 1 => hexTo m n ++ ⟨#[hexK m (7 - n)]⟩
theorem hexTo_size (m : Nat) : ∀ n, (hexTo m n).size = n
  | 0 => rfl
  | n + 1 => by rw [hexTo, ByteArray.size_append, hexTo_size m n]; rfl
def hexN (n : Int) : ByteArray := if isW n = true then hexTo n.toNat 8 else ⟨#[]⟩
theorem hexD_at {v : Nat} (h : v < 16) : hexD.extract v (v + 1) = ⟨#[hexB v]⟩ := by
  have : v = 0 ∨ v = 1 ∨ v = 2 ∨ v = 3 ∨ v = 4 ∨ v = 5 ∨ v = 6 ∨ v = 7 ∨ v = 8 ∨ v = 9 ∨ v = 10 ∨ v = 11 ∨ v = 12 ∨ v = 13 ∨ v = 14 ∨ v = 15 := by omega
  rcases this with rfl | rfl | rfl | rfl | rfl | rfl | rfl | rfl | rfl | rfl | rfl | rfl | rfl | rfl | rfl | rfl <;> rfl

theorem hex_and {m : Nat} (hm : m < 4294967296) (q : Nat) : bits .and .i64 ((m : Int) / 2 ^ (4 * q)) 15 = ((m / 16 ^ q % 16 : Nat) : Int) := by
  have e1 : ((m : Int) / 2 ^ (4 * q)) = ((m / 16 ^ q : Nat) : Int) := by
    rw [bit_int, Nat.pow_mul]
  have h1 : m / 16 ^ q < 4294967296 := Nat.lt_of_le_of_lt (Nat.div_le_self _ _) hm
  rw [e1]
  generalize m / 16 ^ q = x at h1 ⊢
  have h2 : (15 : Int) = ((15 : Nat) : Int) := rfl
  rw [h2, and_i64 h1 (by omega)]
  congr 1
  exact Nat.and_two_pow_sub_one_eq_mod x 4

set_option maxRecDepth 100000 in
set_option maxHeartbeats 1000000 in
theorem specHex_any (n : Int) (w : World) : Calls Tryz.prog 30 #[.int .i64 n] w fun e w' => e = .returned (.string (hexN n)) ∧ w = w' := by
  have hw := fun W => l7Word_any n W
  cases hq : isW n
  · rw [hq] at hw
    have HW := Lib.hid hw
    have HQ := Lib.hid hq
    clear hw hq
    go_enter Tryz.func30, Tryz.ntmps30
    go_wp2_with (go_at_call 69; refine (HW.out _).mono ?_; rintro y w2 ⟨rfl, rfl⟩)
    go_ret
    exact ⟨retSH (by rw [hexN, if_neg (by rw [HQ.out]; exact Bool.false_ne_true)]), rfl⟩
  · rw [hq] at hw
    have HW := Lib.hid hw
    have HN := Lib.hid (show hexN n = hexTo n.toNat 8 by rw [hexN, if_pos hq])
    have hr : 0 ≤ n ∧ n ≤ 4294967295 := by simpa [isW] using hq
    obtain ⟨m, rfl⟩ : ∃ m : Nat, n = m := ⟨n.toNat, by omega⟩
    rw [Int.toNat_natCast] at HN
    have hm : m < 4294967296 := by omega
    clear hw hq hr
    go_enter Tryz.func30, Tryz.ntmps30
    go_wp2_with (go_at_call 69; refine (HW.out _).mono ?_; rintro y w2 ⟨rfl, rfl⟩)
    go_loopw [3, 4] (fun v i wr => ((∃ q : Nat, i = .int .i64 q ∧ q < 8 ∧ v = .string (hexTo m (7 - q))) ∨ (i = .int .i64 (-1) ∧ v = .string (hexTo m 8))) ∧ wr = w) (fun _ i _ => (intOf i + 1).toNat)
    case atStart => exact ⟨.inl ⟨7, rfl, by omega, rfl⟩, rfl⟩
    case round =>
      obtain ⟨⟨q, rfl, hq, rfl⟩ | ⟨rfl, rfl⟩, rfl⟩ := hrel
      · have hqi : (q : Int) < 8 := by omega
        have hv : m / 16 ^ q % 16 < 16 := Nat.mod_lt _ (by decide)
        have hsz := hexTo_size m (7 - q)
        have HST := Lib.hid (show hexTo m (7 - q + 1) = hexTo m (7 - q) ++ ⟨#[hexK m q]⟩ by rw [hexTo, show 7 - (7 - q) = q by omega])
        have HAT := Lib.hid (hexD_at hv)
        obtain ⟨t, ht⟩ : ∃ t, t = hexTo m (7 - q) := ⟨_, rfl⟩
        rw [← ht] at hsz HST ⊢
        clear ht
        have ht8 : t.size ≤ 7 := by omega
        have hd := hex_and hm q
        have HK := Lib.hid (show hexK m q = hexB (m / 16 ^ q % 16) from rfl)
        have HQ8 := Lib.hid hq
        obtain ⟨u, hu⟩ : ∃ u, u = m / 16 ^ q % 16 := ⟨_, rfl⟩
        rw [← hu] at hd hv HAT HK
        have hvi : (u : Int) < 16 := by omega
        clear hu
        go_wp2_with fail
        go_roundw
        case rel =>
          refine ⟨?_, trivial⟩
          have h := HAT.out
          unfold hexD at h
          have hs := HST.out
          rw [HK.out, ← h] at hs
          rcases Nat.eq_zero_or_pos q with h0 | h0
          · subst h0
            exact .inr ⟨rfl, by rw [← hs]⟩
          · refine .inl ⟨q - 1, by congr 1; omega, by omega, ?_⟩
            rw [show 7 - (q - 1) = 7 - q + 1 by have := HQ8.out; omega, hs]
        case measure => simp [intOf]
      · go_wp2_with fail
        go_ret
        exact ⟨retSH HN.out.symm, rfl⟩

/-! the program's: from the last digit on -/
theorem hexB_at {v : Nat} (h : v < hexD.size) : hexD[v] = hexB v := by
  have h2 : v < hexD.data.size := h
  rw [hexB, getElem!_pos hexD.data v h2]
  rfl
set_option maxHeartbeats 400000 in
theorem hexCut_any (g m : Nat) (w : World) (hm : m < 4294967296) (hc : w.cell? ⟨g, 0, none⟩ = some (.int .u32 m)) (hf : w.frozen? ⟨g, 0, none⟩ = false) :
    Calls Tryz.prog 102 #[.pointer (some ⟨g, 0, none⟩)] w fun e w' => e = .returned (.int .u8 ((hexB (m % 16)).toNat : Int)) ∧ w' = w.setCell ⟨g, 0, none⟩ (.int .u32 ((m / 16 : Nat) : Int)) := by
  have hv : m % 16 < hexD.size := Nat.mod_lt _ (by decide)
  have HB := Lib.hid (hexB_at hv)
  go_enter Tryz.func102, Tryz.ntmps102
  go_wp2_with fail
  go_ret
  refine ⟨?_, by rw [Int.natCast_ediv]; rfl⟩
  rw [← HB.out]
  rfl

def hexA (f : Nat → Int) : Array Value := ((List.range 8).map fun i => Value.int .u8 (f i)).toArray
theorem hexA_size (f : Nat → Int) : (hexA f).size = 8 := by simp [hexA]
theorem hexA_get (f : Nat → Int) {i : Nat} (h : i < 8) : (hexA f)[i]? = some (.int .u8 (f i)) := by simp [hexA, h]
theorem hexA_set (f : Nat → Int) (k : Nat) (z : Int) : (hexA f).setIfInBounds k (.int .u8 z) = hexA (fun i => if i = k then z else f i) := by
  apply Array.ext_getElem?
  intro i
  rw [Array.getElem?_setIfInBounds]
  by_cases hi : i < 8
  · rw [hexA_get _ hi, hexA_get _ hi]
    by_cases e : k = i
    · subst e; simp [hexA_size, hi]
    · have e' : ¬ i = k := fun x => e x.symm
      simp [e, e']
  · have e1 : (hexA f)[i]? = none := Array.getElem?_eq_none (by rw [hexA_size]; omega)
    have e2 : (hexA (fun i => if i = k then z else f i))[i]? = none := Array.getElem?_eq_none (by rw [hexA_size]; omega)
    rw [e1, e2, hexA_size]
    split
    · next e => rw [if_neg (by omega)]
    · rfl
def HexU (W : World) (R : Nat) (f : Nat → Int) : Prop := W.heap[R]? = some (.cells (hexA f) 120 (0, 0))
theorem HexU.lt {W : World} {R : Nat} {f : Nat → Int} (h : HexU W R f) : R < W.heap.size := (Array.getElem?_eq_some_iff.1 h).1
theorem HexU.cell {W : World} {R : Nat} {f : Nat → Int} (h : HexU W R f) {k : Nat} (hk : k < 8) : W.cell? ⟨R, k, none⟩ = some (.int .u8 (f k)) := (cell_of_row W R k _ _ _ h).trans (hexA_get f hk)
theorem HexU.frozen {W : World} {R : Nat} {f : Nat → Int} (h : HexU W R f) (k : Nat) : W.frozen? ⟨R, k, none⟩ = false := frozen_of_row W R k _ _ h
theorem HexU.set {W : World} {R : Nat} {f : Nat → Int} (h : HexU W R f) (k : Nat) (z : Int) : HexU (W.setCell ⟨R, k, none⟩ (.int .u8 z)) R (fun i => if i = k then z else f i) := by
  unfold HexU
  rw [heap_setCell_same W R k _ _ _ h, hexA_set]
/-- The digits that are written behind k calls. -/
def hexF (m k : Nat) : Nat → Int := fun j => if 8 ≤ j + k then ((hexK m (7 - j)).toNat : Int) else 0
theorem hexF_succ (m : Nat) {k : Nat} (hk : k < 8) : (fun i => if i = 7 - k then ((hexK m k).toNat : Int) else hexF m k i) = hexF m (k + 1) := by
  funext i
  unfold hexF
  by_cases e : i = 7 - k
  · rw [if_pos e, if_pos (by omega), show 7 - i = k by omega]
  · rw [if_neg e]
    by_cases h : 8 ≤ i + k
    · rw [if_pos h, if_pos (by omega)]
    · rw [if_neg h, if_neg (by omega)]
theorem zero_hex (m : Nat) : hexA (hexF m 0) = #[.int .u8 0, .int .u8 0, .int .u8 0, .int .u8 0, .int .u8 0, .int .u8 0, .int .u8 0, .int .u8 0] := rfl
theorem arrHex : Tryz.prog.underlying 120 = some (.array (Tryz.prog.arrayLen 120) (Tryz.prog.elem 120)) := by kernel_rfl

theorem lenHex : Tryz.prog.arrayLen 120 = 8 := by kernel_rfl
theorem elemHex : Tryz.prog.elem 120 = 5 := by kernel_rfl
theorem hexTo_data (m : Nat) : hexTo m 8 = ⟨#[hexK m 7, hexK m 6, hexK m 5, hexK m 4, hexK m 3, hexK m 2, hexK m 1, hexK m 0]⟩ := by
  apply ByteArray.ext
  simp [hexTo, ByteArray.data_append]
theorem hex_string (m g : Nat) (W : World) (h : HexU W g (hexF m 8)) : Sem.run Tryz.prog (convert 22 9 (.slice (some ⟨g, 0, none⟩) 8 8)) W = .ok (.string (hexTo m 8)) W := by
  have hl := run_loadCells_list (P := Tryz.prog) (w := W) ⟨g, 0, none⟩ (((List.range 8).map (hexF m 8)).map (Value.int .u8)) (fun j v hj => by
    have hj8 : j < 8 := by have := (List.getElem?_eq_some_iff.1 hj).1; simpa using this
    rw [Addr.add_lit, Nat.zero_add, h.cell hj8, ← hj]
    simp [hj8])
  rw [List.length_map, List.length_map, List.length_range] at hl
  rw [run_convert_bytes_string _ _ _ _ _ _ _ Tryz.underlying22 Tryz.underlying5 Tryz.underlying9, run_bytesToString _ _ _ _ _ hl, hexTo_data]
  simp [List.range, List.range.loop, hexF, ByteArray.push]

set_option maxRecDepth 100000 in
set_option maxHeartbeats 1000000 in
theorem hexText_any (m : Nat) (w : World) (hm : m < 4294967296) :
    Calls Tryz.prog 70 #[.int .u32 m] w fun e w' => e = .returned (.string (hexTo m 8)) ∧ RowKit.Below w.heap.size w w' := by
  have HCUT := Lib.hid (fun (k : Nat) W => hexCut_any w.heap.size (m / 16 ^ k) W (Nat.lt_of_le_of_lt (Nat.div_le_self _ _) hm))
  have hcl : ∀ args W, Sem.run Tryz.prog (callFunc 102 args) W = .ok (.enter 102 args) W := fun args W => enters_of Tryz.func102 (by kernel_rfl) rfl args W
  go_enter Tryz.func70, Tryz.ntmps70
  go_wp2_with fail
  rw [← zero_hex m]
  obtain ⟨W0, hW0⟩ : ∃ W0, W0 = (w.alloc (.cells #[.int .u32 m] 61)).alloc (.cells (hexA (hexF m 0)) 120) := ⟨_, rfl⟩
  have hS : HexU W0 (w.heap.size + 1) (hexF m 0) := by
    have := World.alloc_heap_new (w.alloc (.cells #[.int .u32 m] 61)) (.cells (hexA (hexF m 0)) 120)
    rw [hW0]
    simpa [HexU] using this
  have hB0 : RowKit.Below w.heap.size w W0 := by rw [hW0]; exact ((Below.refl _ _).alloc (Nat.le_refl _) _).alloc (by simp) _
  have c0 : W0.cell? ⟨w.heap.size, 0, none⟩ = some (.int .u32 m) := by rw [hW0]; simp [go_sem]
  have f0 : W0.frozen? ⟨w.heap.size, 0, none⟩ = false := by rw [hW0]; simp [go_sem]
  rw [← hW0]
  clear hW0
  have HS0 := Lib.hid hS
  have HB0 := Lib.hid hB0
  have C0 := Lib.hid c0
  have F0 := Lib.hid f0
  clear hS hB0 c0 f0
  go_loopw [5] (fun i wr => ∃ k : Nat, ((k < 8 ∧ i = .int .i64 ((7 - k : Nat) : Int)) ∨ (k = 8 ∧ i = .int .i64 (-1))) ∧ Hid (wr.cell? ⟨w.heap.size, 0, none⟩ = some (.int .u32 ((m / 16 ^ k : Nat) : Int))) ∧ Hid (wr.frozen? ⟨w.heap.size, 0, none⟩ = false) ∧ Hid (HexU wr (w.heap.size + 1) (hexF m k)) ∧ Hid (RowKit.Below w.heap.size w wr)) (fun i _ => (intOf i + 1).toNat)
  case atStart => exact ⟨0, .inl ⟨by omega, rfl⟩, by simpa [Hid] using C0.out, F0.out, HS0.out, HB0.out⟩
  case round =>
    obtain ⟨k, ⟨hk, rfl⟩ | ⟨rfl, rfl⟩, HC, HF, HS, HB⟩ := hrel
    · obtain ⟨q, hq⟩ : ∃ q, q = 7 - k := ⟨_, rfl⟩
      have HQ := Lib.hid hq
      have hq7 : q ≤ 7 := by omega
      rw [← hq]
      have hc := HCUT.out k wr HC.out HF.out
      have HK := Lib.hid (show hexK m k = hexB (m / 16 ^ k % 16) from rfl)
      rw [← HK.out] at hc
      have HSU := Lib.hid (hexF_succ m hk)
      rw [← hq] at HSU
      have HDV := Lib.hid (show m / 16 ^ k / 16 = m / 16 ^ (k + 1) by rw [Nat.div_div_eq_div_mul, Nat.pow_succ])
      rw [HDV.out] at hc
      have hcc := Lib.hid hc
      have hs1 : HexU (wr.setCell ⟨w.heap.size, 0, none⟩ (.int .u32 ((m / 16 ^ (k + 1) : Nat) : Int))) (w.heap.size + 1) (hexF m k) := by
        unfold HexU
        rw [heap_setCell_other _ _ _ _ (by show w.heap.size + 1 ≠ w.heap.size; omega)]
        exact HS.out
      have hb1 : RowKit.Below w.heap.size w (wr.setCell ⟨w.heap.size, 0, none⟩ (.int .u32 ((m / 16 ^ (k + 1) : Nat) : Int))) := HB.out.setCell (p := ⟨w.heap.size, 0, none⟩) (Nat.le_refl _) _
      have hcell1 : (wr.setCell ⟨w.heap.size, 0, none⟩ (.int .u32 ((m / 16 ^ (k + 1) : Nat) : Int))).cell? ⟨w.heap.size, 0, none⟩ = some (.int .u32 ((m / 16 ^ (k + 1) : Nat) : Int)) := World.cell?_setCell_same _ _ _ HC.out
      have hfz1 : (wr.setCell ⟨w.heap.size, 0, none⟩ (.int .u32 ((m / 16 ^ (k + 1) : Nat) : Int))).frozen? ⟨w.heap.size, 0, none⟩ = false := by rw [World.frozen?_setCell]; exact HF.out
      obtain ⟨W1, hW1⟩ : ∃ W1, W1 = wr.setCell ⟨w.heap.size, 0, none⟩ (.int .u32 ((m / 16 ^ (k + 1) : Nat) : Int)) := ⟨_, rfl⟩
      rw [← hW1] at hs1 hb1 hcell1 hfz1 hcc
      have y0 := hs1.cell (k := q) (by omega)
      have y1 := hs1.frozen q
      obtain ⟨u, hu⟩ : ∃ u, u = Value.int .u8 (hexF m k q) := ⟨_, rfl⟩
      rw [← hu] at y0
      have HS1 := Lib.hid hs1
      have HB1 := Lib.hid hb1
      have HC1 := Lib.hid hcell1
      have HF1 := Lib.hid hfz1
      have HKK := Lib.hid hk
      have hqi : (q : Int) < 8 := by omega
      clear hu hW1 hs1 hb1 hcell1 hfz1 hc hq hk
      go_wp2_with (go_at_call 102; refine hcc.out.mono ?_; rintro y w5 ⟨rfl, rfl⟩)
      go_roundw
      case rel =>
        refine ⟨k + 1, ?_, ?_, ?_, ?_, HB1.out.setCell (p := ⟨w.heap.size + 1, q, none⟩) (by show w.heap.size ≤ w.heap.size + 1; omega) _⟩
        · have h1 := HQ.out
          have h2 := HKK.out
          by_cases h3 : k + 1 < 8
          · exact .inl ⟨h3, by congr 1; omega⟩
          · exact .inr ⟨by omega, by congr 1; omega⟩
        · show _ = _
          rw [World.cell?_setCell_other _ _ _ _ (by intro e; injection e with e1; omega)]
          exact HC1.out
        · show _ = _
          rw [World.frozen?_setCell]
          exact HF1.out
        · show HexU _ _ _
          rw [← HSU.out]
          exact HS1.out.set q _
      case measure => simp [intOf]
    · have HSX := HS.out
      have hsl : ∀ W, Sem.run Tryz.prog (Instr.sliceAt 120 (.pointer (some ⟨w.heap.size + 1, 0, none⟩)) none none none) W = .ok (.slice (some ⟨w.heap.size + 1, 0, none⟩) 8 8) W := fun W => by
        rw [run_sliceAt_array_all W 120 _ arrHex, elemHex, Tryz.sizeOf5]
        simp [slicedAt, lenHex, Result.andThen, Addr.add]
      have hcv := hex_string m (w.heap.size + 1) wr HSX
      have HBX := Lib.hid HB.out
      have HNS := Lib.hid HSX
      clear HSX
      go_wp2_with fail
      go_ret
      exact ⟨rfl, HBX.out⟩

set_option maxHeartbeats 400000 in
theorem implHex_any (n : Int) (w : World) : Calls Tryz.prog 29 #[.int .i64 n] w fun e w' => e = .returned (.string (hexN n)) ∧ RowKit.Below w.heap.size w w' := by
  have hr := fun W => readWord_any n W
  cases hq : isW n
  · rw [hq] at hr
    have HR := Lib.hid hr
    have HQ := Lib.hid hq
    clear hr hq
    go_enter Tryz.func29, Tryz.ntmps29
    go_wp2_with (go_at_call 51; refine (HR.out _).mono ?_; rintro y w2 ⟨rfl, rfl⟩)
    go_ret
    exact ⟨retSH (by rw [hexN, if_neg (by rw [HQ.out]; exact Bool.false_ne_true)]), Below.refl _ _⟩
  · have hz : wrdZ n = n := by rw [wrdZ, if_pos hq]
    rw [hq, hz] at hr
    have HN := Lib.hid (show hexN n = hexTo n.toNat 8 by rw [hexN, if_pos hq])
    have hb : 0 ≤ n ∧ n ≤ 4294967295 := by simpa [isW] using hq
    obtain ⟨m, rfl⟩ : ∃ m : Nat, n = m := ⟨n.toNat, by omega⟩
    rw [Int.toNat_natCast] at HN
    have HR := Lib.hid hr
    have HT := Lib.hid (fun W => hexText_any m W (by omega))
    clear hr hq hb hz
    go_enter Tryz.func29, Tryz.ntmps29
    go_wp2_with (first
      | (go_at_call 51; refine (HR.out _).mono ?_; rintro y w2 ⟨rfl, rfl⟩)
      | (go_at_call 70; refine (HT.out _).mono ?_; rintro y w3 ⟨rfl, hb3⟩; have HB3 := Lib.hid hb3; clear hb3))
    go_ret
    exact ⟨retSH HN.out.symm, HB3.out⟩

end Go.Proofs.YtbhamkmiagdimaaGreatDoor
