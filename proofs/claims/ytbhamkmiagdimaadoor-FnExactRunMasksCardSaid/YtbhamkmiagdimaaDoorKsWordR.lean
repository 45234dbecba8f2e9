
/- RunMasks: the model's and the program's. -/
import Derived.Test.YtbhamkmiagdimaaDoorKsWordC
namespace Go.Proofs.YtbhamkmiagdimaaDoor
open Go.RowKit Go.Shelf Go.Lib Go.Sort

/-- The first word of an order that has a key. -/
def firstW (d : Array CaseD) (s : ByteArray) (key : Nat) : Option Nat := (List.range s.size).find? fun k => (byteN s k : Int) == goB d key
theorem firstW_hit {d : Array CaseD} {s : ByteArray} {key k : Nat} (hk : k < s.size) (h : goB d key = (byteN s k : Int)) (hn : ∀ j, j < k → goB d key ≠ (byteN s j : Int)) : firstW d s key = some k := by
  rw [firstW, List.find?_range_eq_some]
  refine ⟨by rw [h]; simp, List.mem_range.2 hk, fun j hj => ?_⟩
  have := hn j hj
  have e : ((byteN s j : Int) == goB d key) = false := by simpa using fun x => this x.symm
  simp [e]
theorem firstW_miss {d : Array CaseD} {s : ByteArray} {key : Nat} (hn : ∀ j, j < s.size → goB d key ≠ (byteN s j : Int)) : firstW d s key = none := by
  rw [firstW, List.find?_eq_none]
  intro j hj
  have := hn j (List.mem_range.1 hj)
  have e : ((byteN s j : Int) == goB d key) = false := by simpa using fun x => this x.symm
  simp [e]
noncomputable def mrunB (d : Array CaseD) (rest key : Int) (s : ByteArray) : Bool := swB d rest && ordWB d s && keyB key
def mrunT (d : Array CaseD) (s : ByteArray) (key : Nat) : ByteArray := match firstW d s key with | some k => s.extract k (k + 1) | none => zS
def mrunC (d : Array CaseD) (s : ByteArray) (key : Nat) : Int := match firstW d s key with | some k => (k : Int) + 1 | none => (s.size : Int)
noncomputable def mrunTN (d : Array CaseD) (rest key : Int) (s : ByteArray) : ByteArray := if mrunB d rest key s = true then mrunT d s key.toNat else ⟨#[]⟩
noncomputable def mrunCN (d : Array CaseD) (rest key : Int) (s : ByteArray) : Int := if mrunB d rest key s = true then mrunC d s key.toNat else 0
theorem ret3 {a c : ByteArray} {b e : Int} {f g : Bool} (h : a = c) (h2 : b = e) (h3 : f = g) : Ending.returned (.tuple #[.string a, .int .i64 b, .bool f]) = .returned (.tuple #[.string c, .int .i64 e, .bool g]) := by rw [h, h2, h3]
theorem mrun_no {d : Array CaseD} {rest key : Int} {s : ByteArray} (h : mrunB d rest key s = false) : Ending.returned (.tuple #[.string ⟨#[]⟩, .int .i64 0, .bool false]) = .returned (.tuple #[.string (mrunTN d rest key s), .int .i64 (mrunCN d rest key s), .bool (mrunB d rest key s)]) :=
  ret3 (by rw [mrunTN, if_neg (by rw [h]; exact Bool.false_ne_true)]) (by rw [mrunCN, if_neg (by rw [h]; exact Bool.false_ne_true)]) h.symm
theorem mrun_hit {d : Array CaseD} {rest : Int} {key k : Nat} {s : ByteArray} (h : mrunB d rest key s = true) (hk : k < s.size) (e : goB d key = (byteN s k : Int)) (hn : ∀ j, j < k → goB d key ≠ (byteN s j : Int)) : Ending.returned (.tuple #[.string (s.extract k (k + 1)), .int .i64 ((k : Int) + 1), .bool true]) = .returned (.tuple #[.string (mrunTN d rest key s), .int .i64 (mrunCN d rest key s), .bool (mrunB d rest key s)]) :=
  ret3 (by rw [mrunTN, if_pos h, mrunT, Int.toNat_natCast, firstW_hit hk e hn]) (by rw [mrunCN, if_pos h, mrunC, Int.toNat_natCast, firstW_hit hk e hn]) h.symm
theorem mrun_miss {d : Array CaseD} {rest : Int} {key : Nat} {s : ByteArray} (h : mrunB d rest key s = true) (hn : ∀ j, j < s.size → goB d key ≠ (byteN s j : Int)) : Ending.returned (.tuple #[.string zS, .int .i64 (s.size : Int), .bool true]) = .returned (.tuple #[.string (mrunTN d rest key s), .int .i64 (mrunCN d rest key s), .bool (mrunB d rest key s)]) :=
  ret3 (by rw [mrunTN, if_pos h, mrunT, Int.toNat_natCast, firstW_miss hn]) (by rw [mrunCN, if_pos h, mrunC, Int.toNat_natCast, firstW_miss hn]) h.symm
theorem extract_byte {s : ByteArray} {k : Nat} (hk : k < s.size) : (⟨#[s[k]]⟩ : ByteArray) = s.extract k (k + 1) := by
  obtain ⟨b, hb⟩ := one_byte (extract_size1 hk)
  have h1 := extract_tg hk
  rw [hb] at h1 ⊢
  have e1 : tg0 ⟨#[b]⟩ = (b.toNat : Int) := rfl
  rw [e1, ← byteN_get hk] at h1
  have : b = s[k] := UInt8.toNat_inj.1 (by omega)
  rw [this]
theorem bit_u32 {m k : Nat} (hm : m < 4294967296) : bits .and .u32 ((m : Int) / 2 ^ k) 1 = ((m / 2 ^ k % 2 : Nat) : Int) := by
  have h1 : m / 2 ^ k < 4294967296 := Nat.lt_of_le_of_lt (Nat.div_le_self _ _) hm
  have h2 : (1 : Int) = ((1 : Nat) : Int) := rfl
  rw [bit_int, h2, and_u32 h1 (by omega), and_one]
theorem bit_i64 {m k : Nat} (hm : m < 4294967296) : bits .and .i64 ((m : Int) / 2 ^ k) 1 = ((m / 2 ^ k % 2 : Nat) : Int) := by
  have h1 : m / 2 ^ k < 4294967296 := Nat.lt_of_le_of_lt (Nat.div_le_self _ _) hm
  have h2 : (1 : Int) = ((1 : Nat) : Int) := rfl
  rw [bit_int, h2, and_i64 h1 (by omega), and_one]
theorem wordHas_any (d : Array CaseD) (t : Int) (k : Nat) (hk : k < 32) (w : World) :
    Calls Tryd.prog 58 #[.int .u32 (wordN d t 32), .int .i64 k] w fun e w' => e = .returned (.bool (decide (goB d k = t))) ∧ w = w' := by
  have hb := bit_u32 (k := k) (wordN_lt d t (n := 32) (by omega))
  rw [wordN_bit d t hk] at hb
  generalize wordN d t 32 = m at hb ⊢
  by_cases h : goB d k = t
  · rw [if_pos h] at hb
    have HD := Lib.hid (show decide (goB d k = t) = true from decide_eq_true h)
    clear h
    go_enter Tryd.func58, Tryd.ntmps58
    go_wp2
    go_ret
    exact ⟨retB (by rw [HD.out]), rfl⟩
  · rw [if_neg h] at hb
    have HD := Lib.hid (show decide (goB d k = t) = false from decide_eq_false h)
    clear h
    go_enter Tryd.func58, Tryd.ntmps58
    go_wp2
    go_ret
    exact ⟨retB (by rw [HD.out]), rfl⟩

set_option maxRecDepth 100000 in
set_option maxHeartbeats 1000000 in
theorem specMRun_any (b off cap : Nat) (d : Array CaseD) (rest key : Int) (s : ByteArray) (w : World) (hR : RowC w b off d) (hcap : d.size ≤ cap) (hmax : cap ≤ maxLen) (hs : s.size ≤ 1048576) :
    Calls Tryd.prog 26 #[.agg #[.slice (some ⟨b, off, none⟩) d.size cap, .int .i64 rest], .string s, .int .i64 key] w fun x w' => x = .returned (.tuple #[.string (mrunTN d rest key s), .int .i64 (mrunCN d rest key s), .bool (mrunB d rest key s)]) ∧ RowKit.Below w.heap.size w w' := by
  have hv := fun W (hW : RowKit.Below w.heap.size w W) => specValid_any b off cap d rest W (hR.below hW) hcap hmax
  have HM := Lib.hid (fun ho (t : ByteArray) ht W (hW : RowKit.Below w.heap.size w W) => l7Mask_any b off cap d rest t W (hR.below hW) ho ht)
  have hot := fun ho W (hW : RowKit.Below w.heap.size w W) => l7Order_any b off cap d rest s W (hR.below hW) ho hs
  have hk := fun W => l1Key_any key W
  have hsi : (s.size : Int) ≤ 1048576 := by omega
  obtain ⟨wa, hwa⟩ : ∃ wa, wa = w.alloc (.cells #[.slice (some ⟨b, off, none⟩) d.size cap, .int .i64 rest] 32) := ⟨_, rfl⟩
  have c0 : wa.cell? ⟨w.heap.size, 0, none⟩ = some (.slice (some ⟨b, off, none⟩) d.size cap) := by rw [hwa]; simp
  have c1 : wa.cell? ⟨w.heap.size, 1, none⟩ = some (.int .i64 rest) := by rw [hwa]; simp
  have hz : w.heap.size < wa.heap.size := by rw [hwa]; simp
  have hba : RowKit.Below w.heap.size w wa := by rw [hwa]; exact (Below.refl _ _).alloc (Nat.le_refl _) _
  have HA := Lib.hid hba
  have C0 := Lib.hid c0
  have C1 := Lib.hid c1
  have HWA := Lib.hid hwa
  clear hba c0 c1 hwa hR
  have HMB := Lib.hid (show mrunB d rest key s = (swB d rest && ordWB d s && keyB key) from rfl)
  cases hsw : swB d rest
  · rw [hsw] at hv HMB
    have HV := Lib.hid hv
    have a0 := C0.out
    have a1 := C1.out
    clear hv hsw hot hk
    go_enter Tryd.func26, Tryd.ntmps26
    go_wp2_with fail
    rw [← HWA.out]
    refine (HV.out _ HA.out).mono ?_
    rintro x w1 ⟨rfl, hb⟩
    have HB := Lib.hid (HA.out.trans (hb.mono HA.out.size))
    clear hb a0 a1
    go_wp2_with fail
    go_ret3
    exact ⟨mrun_no HMB.out, HB.out⟩
  · have hot2 := hot ((swB_iff _ _).1 hsw)
    rw [hsw] at hv HMB
    cases hor : ordWB d s <;> cases hkb : keyB key
    all_goals
      rw [hor] at hot2 HMB
      rw [hkb] at hk HMB
      have HV := Lib.hid hv
      have HS := Lib.hid hsw
      have HOR := Lib.hid hor
      have HOT := Lib.hid hot2
      have HK := Lib.hid hk
      have HKB := Lib.hid hkb
      have a0 := C0.out
      have a1 := C1.out
      clear hv hsw hot hot2 hor hk hkb
      go_enter Tryd.func26, Tryd.ntmps26
      go_wp2_with fail
      rw [← HWA.out]
      refine (HV.out _ HA.out).mono ?_
      rintro x w1 ⟨rfl, hb⟩
      have HB := Lib.hid (HA.out.trans (hb.mono HA.out.size))
      have HBA := Lib.hid hb
      have b0 := (hb.cell (p := ⟨w.heap.size, 0, none⟩) hz).trans C0.out
      have b1 := (hb.cell (p := ⟨w.heap.size, 1, none⟩) hz).trans C1.out
      clear hb a0 a1
      go_wp2_with fail
      refine (HOT.out _ HB.out).mono ?_
      rintro x w2 ⟨rfl, hb⟩
      have HB2 := Lib.hid (HB.out.trans (hb.mono HB.out.size))
      have HBA2 := Lib.hid (HBA.out.trans (hb.mono HBA.out.size))
      have b0 := (HBA2.out.cell (p := ⟨w.heap.size, 0, none⟩) hz).trans C0.out
      have b1 := (HBA2.out.cell (p := ⟨w.heap.size, 1, none⟩) hz).trans C1.out
      clear hb
      go_wp2_with (go_at_call 55; refine (HK.out _).mono ?_; rintro y w3 ⟨rfl, rfl⟩)
    iterate 3
      · go_ret3
        exact ⟨mrun_no HMB.out, HB2.out⟩
    · have HO := Lib.hid ((swB_iff _ _).1 HS.out)
      have HW := Lib.hid ((ordWB_iff _ _).1 HOR.out)
      have hs8 := ordW_small HW.out
      have hs8i : (s.size : Int) ≤ 8 := by omega
      have hkr := HKB.out
      simp only [keyB, decide_eq_true_eq] at hkr
      obtain ⟨q, rfl⟩ : ∃ q : Nat, key = q := ⟨key.toNat, by omega⟩
      have hq32 : q < 32 := by omega
      have hqi : (q : Int) ≤ 31 := by omega
      clear hkr b0 b1
      go_loopw [26] (fun i wr => ∃ k : Nat, i = .int .i64 k ∧ k ≤ s.size ∧ Hid (∀ j, j < k → goB d q ≠ (byteN s j : Int)) ∧ Hid (RowKit.Below wa.heap.size wa wr)) (fun i _ => s.size - (intOf i).toNat)
      case atStart => exact ⟨0, rfl, Nat.zero_le _, fun j hj => absurd hj (Nat.not_lt_zero _), HBA2.out⟩
      case round =>
        obtain ⟨k, rfl, hk, HE, HR3⟩ := hrel
        have HWW := Lib.hid (HA.out.trans (HR3.out.mono HA.out.size))
        by_cases hlt : k < s.size
        · have hki : (k : Int) < (s.size : Int) := by omega
          have zr : w.heap.size < wr.heap.size := by have := HR3.out.size; omega
          have q0 := fun p : BW wr => p.cell zr ((HR3.out.cell (p := ⟨w.heap.size, 0, none⟩) hz).trans C0.out)
          have q1 := fun p : BW wr => p.cell zr ((HR3.out.cell (p := ⟨w.heap.size, 1, none⟩) hz).trans C1.out)
          have gc := fun p : BW wr => HM.out HO.out (s.extract k (k + 1)) (extract_size1 hlt) p.W (HWW.out.trans (p.h.mono HWW.out.size))
          rw [extract_tg hlt] at gc
          have hbit := bit_i64 (k := q) (wordN_lt d (byteN s k : Int) (n := 32) (by omega))
          rw [wordN_bit d _ hq32] at hbit
          obtain ⟨m, hm⟩ : ∃ m, m = wordN d (byteN s k : Int) 32 := ⟨_, rfl⟩
          rw [← hm] at gc hbit
          clear hm
          have GC := Lib.hid gc
          clear gc
          by_cases hgo : goB d q = (byteN s k : Int)
          · rw [if_pos hgo] at hbit
            have HGO := Lib.hid hgo
            clear hgo
            go_wp2_with fail
            refine wp_region_bw (by kernel_rfl) (by kernel_rfl) ?_
            repeat (go_big_quiet_step (with_reducible refine bw_of (GC.out _)))
            refine wpQuiet_nil ?_
            rintro _ ⟨⟨W', hBW⟩, rfl⟩
            have HBW := Lib.hid (HWW.out.trans (hBW.mono HWW.out.size))
            clear hBW
            go_wp2_with fail
            go_ret3
            exact ⟨mrun_hit HMB.out hlt HGO.out HE.out, HBW.out⟩
          · rw [if_neg hgo] at hbit
            have HGO := Lib.hid hgo
            clear hgo
            go_wp2_with fail
            refine wp_region_bw (by kernel_rfl) (by kernel_rfl) ?_
            repeat (go_big_quiet_step (with_reducible refine bw_of (GC.out _)))
            refine wpQuiet_nil ?_
            rintro _ ⟨⟨W', hBW⟩, rfl⟩
            have HBW := Lib.hid (HR3.out.trans (hBW.mono HR3.out.size))
            clear hBW
            go_wp2_with fail
            go_roundw
            case rel =>
              refine ⟨k + 1, by go_num, by omega, (show Hid _ from fun j hj => ?_), HBW.out⟩
              by_cases e : j = k
              · subst e; exact HGO.out
              · exact HE.out j (by omega)
            case measure => simp [intOf]; omega
        · have hke : k = s.size := by omega
          subst hke
          go_wp2_with fail
          go_ret3
          exact ⟨mrun_miss HMB.out HE.out, HWW.out⟩

set_option maxRecDepth 100000 in
set_option maxHeartbeats 1000000 in
theorem implMRun_any (b off cap : Nat) (d : Array CaseD) (rest key : Int) (s : ByteArray) (w : World) (hR : RowC w b off d) (hE : ErrAt w) (hcap : d.size ≤ cap) (hmax : cap ≤ maxLen) (hs : s.size ≤ 1048576) :
    Calls Tryd.prog 27 #[.agg #[.slice (some ⟨b, off, none⟩) d.size cap, .int .i64 rest], .string s, .int .i64 key] w fun x w' => x = .returned (.tuple #[.string (mrunTN d rest key s), .int .i64 (mrunCN d rest key s), .bool (mrunB d rest key s)]) ∧ RowKit.Below w.heap.size w w' := by
  have ho := fun W (hW : RowKit.Below w.heap.size w W) => isWordOrder_any b off cap d rest s W (hR.below hW) (hE.below hW) hcap hmax hs
  have HM := Lib.hid (fun ho (t : Int) W (hW : RowKit.Below w.heap.size w W) => wordOf_any b off cap d rest t W (hR.below hW) ho)
  have hk := fun W => isKey_any key W
  have hsi : (s.size : Int) ≤ 1048576 := by omega
  obtain ⟨wa, hwa⟩ : ∃ wa, wa = w.alloc (.cells #[.slice (some ⟨b, off, none⟩) d.size cap, .int .i64 rest] 32) := ⟨_, rfl⟩
  have c0 : wa.cell? ⟨w.heap.size, 0, none⟩ = some (.slice (some ⟨b, off, none⟩) d.size cap) := by rw [hwa]; simp
  have c1 : wa.cell? ⟨w.heap.size, 1, none⟩ = some (.int .i64 rest) := by rw [hwa]; simp
  have hz : w.heap.size < wa.heap.size := by rw [hwa]; simp
  have hba : RowKit.Below w.heap.size w wa := by rw [hwa]; exact (Below.refl _ _).alloc (Nat.le_refl _) _
  have HA := Lib.hid hba
  have C0 := Lib.hid c0
  have C1 := Lib.hid c1
  have HWA := Lib.hid hwa
  clear hba c0 c1 hwa hR hE
  have HMB := Lib.hid (show mrunB d rest key s = (swB d rest && ordWB d s && keyB key) from rfl)
  cases hq : (swB d rest && ordWB d s) <;> cases hkb : keyB key
  all_goals
    rw [hq] at ho HMB
    rw [hkb] at hk HMB
    have HV := Lib.hid ho
    have HQ := Lib.hid hq
    have HK := Lib.hid hk
    have HKB := Lib.hid hkb
    have a0 := C0.out
    have a1 := C1.out
    clear ho hq hk hkb
    go_enter Tryd.func27, Tryd.ntmps27
    go_wp2_with fail
    rw [← HWA.out]
    refine (HV.out _ HA.out).mono ?_
    rintro x w1 ⟨rfl, hb⟩
    have HB := Lib.hid (HA.out.trans (hb.mono HA.out.size))
    have HBA := Lib.hid hb
    have b0 := (hb.cell (p := ⟨w.heap.size, 0, none⟩) hz).trans C0.out
    have b1 := (hb.cell (p := ⟨w.heap.size, 1, none⟩) hz).trans C1.out
    clear hb a0 a1
    go_wp2_with (go_at_call 57; refine (HK.out _).mono ?_; rintro y w3 ⟨rfl, rfl⟩)
  iterate 3
    · go_ret3
      exact ⟨mrun_no HMB.out, HB.out⟩
  · have hq2 := HQ.out
    rw [Bool.and_eq_true] at hq2
    have HO := Lib.hid ((swB_iff _ _).1 hq2.1)
    have HW := Lib.hid ((ordWB_iff _ _).1 hq2.2)
    clear hq2
    have hs8 := ordW_small HW.out
    have hs8i : (s.size : Int) ≤ 8 := by omega
    have hkr := HKB.out
    simp only [keyB, decide_eq_true_eq] at hkr
    obtain ⟨q, rfl⟩ : ∃ q : Nat, key = q := ⟨key.toNat, by omega⟩
    have hq32 : q < 32 := by omega
    clear hkr b0 b1
    go_loopw [22] (fun i wr => ∃ k : Nat, i = .int .i64 k ∧ k ≤ s.size ∧ Hid (∀ j, j < k → goB d q ≠ (byteN s j : Int)) ∧ Hid (RowKit.Below wa.heap.size wa wr)) (fun i _ => s.size - (intOf i).toNat)
    case atStart => exact ⟨0, rfl, Nat.zero_le _, fun j hj => absurd hj (Nat.not_lt_zero _), HBA.out⟩
    case round =>
      obtain ⟨k, rfl, hk, HE, HR3⟩ := hrel
      have HWW := Lib.hid (HA.out.trans (HR3.out.mono HA.out.size))
      by_cases hlt : k < s.size
      · have hki : (k : Int) < (s.size : Int) := by omega
        have q0 := (HR3.out.cell (p := ⟨w.heap.size, 0, none⟩) hz).trans C0.out
        have q1 := (HR3.out.cell (p := ⟨w.heap.size, 1, none⟩) hz).trans C1.out
        have HC := Lib.hid (HM.out HO.out (s[k].toNat : Int) _ HWW.out)
        have hh := fun W => wordHas_any d (s[k].toNat : Int) q hq32 W
        have HBG := Lib.hid (byteN_get hlt)
        have HTX := Lib.hid (fun W => textW_any s[k] W)
        have HEX := Lib.hid (extract_byte hlt)
        cases hgo : decide (goB d q = (s[k].toNat : Int))
        · rw [hgo] at hh
          have HH := Lib.hid hh
          have HGO := Lib.hid (of_decide_eq_false hgo)
          clear hgo hh
          go_wp2_with (first
            | (go_at_call 51; refine HC.out.mono ?_; rintro y w5 ⟨rfl, hb5⟩; have HB5 := Lib.hid (HR3.out.trans (hb5.mono HR3.out.size)); clear hb5)
            | (go_at_call 58; refine (HH.out _).mono ?_; rintro y w6 ⟨rfl, rfl⟩))
          go_roundw
          case rel =>
            refine ⟨k + 1, by go_num, by omega, (show Hid _ from fun j hj => ?_), HB5.out⟩
            by_cases e : j = k
            · subst e; rw [← HBG.out]; exact HGO.out
            · exact HE.out j (by omega)
          case measure => simp [intOf]; omega
        · rw [hgo] at hh
          have HH := Lib.hid hh
          have HGO := Lib.hid (of_decide_eq_true hgo)
          clear hgo hh
          go_wp2_with (first
            | (go_at_call 51; refine HC.out.mono ?_; rintro y w5 ⟨rfl, hb5⟩; have HB5 := Lib.hid (HWW.out.trans (hb5.mono HWW.out.size)); clear hb5)
            | (go_at_call 58; refine (HH.out _).mono ?_; rintro y w6 ⟨rfl, rfl⟩)
            | (go_at_call 59; refine (HTX.out _).mono ?_; rintro y w7 ⟨rfl, hb7⟩; have HB7 := Lib.hid (HB5.out.trans (hb7.mono HB5.out.size)); clear hb7))
          go_ret3
          rw [HEX.out]
          exact ⟨mrun_hit HMB.out hlt (by rw [← HBG.out]; exact HGO.out) HE.out, HB7.out⟩
      · have hke : k = s.size := by omega
        subst hke
        go_wp2_with (go_at_call 59; refine (text_any _).mono ?_; rintro y w7 ⟨rfl, hb7⟩; have HB7 := Lib.hid (HWW.out.trans (hb7.mono HWW.out.size)); clear hb7)
        go_ret3
        exact ⟨mrun_miss HMB.out HE.out, HB7.out⟩
end Go.Proofs.YtbhamkmiagdimaaDoor
