
/- Prices of clusters: the model's. -/
import Derived.Test.YtjpcpiffffobcaaGreatDoorKsPri
import Derived.Test.YtjpcpiffffobcaaGreatDoorKsModel
import Derived.Test.YtjpcpiffffobcaaGreatDoorKsCheap
namespace Go.Proofs.YtjpcpiffffobcaaGreatDoor
open Go.RowKit Go.Shelf Go.Lib Go.Sort

/-! the targets met in order -/
def seenT (d : Array CaseD) : Nat → List Int
  | 0 => []
  | n + 1 => if (seenT d n).contains (tgJ d n) = true then seenT d n else seenT d n ++ [tgJ d n]
theorem seenT_mem (d : Array CaseD) (x : Int) : ∀ n, x ∈ seenT d n ↔ ∃ i, i < n ∧ tgJ d i = x
  | 0 => by simp [seenT]
  | n + 1 => by
    have ih := seenT_mem d x n
    rw [seenT]
    split
    · next hc =>
      rw [ih]
      constructor
      · rintro ⟨i, h1, h2⟩; exact ⟨i, by omega, h2⟩
      · rintro ⟨i, h1, h2⟩
        by_cases e : i = n
        · subst e
          rw [← ih, ← h2]
          simpa using hc
        · exact ⟨i, by omega, h2⟩
    · rw [List.mem_append, ih, List.mem_singleton]
      constructor
      · rintro (⟨i, h1, h2⟩ | h)
        · exact ⟨i, by omega, h2⟩
        · exact ⟨n, by omega, h.symm⟩
      · rintro ⟨i, h1, h2⟩
        by_cases e : i = n
        · subst e; exact .inr h2.symm
        · exact .inl ⟨i, by omega, h2⟩
theorem seenT_nodup (d : Array CaseD) : ∀ n, (seenT d n).Nodup
  | 0 => List.nodup_nil
  | n + 1 => by
    rw [seenT]
    split
    · exact seenT_nodup d n
    · next hc =>
      rw [List.nodup_append]
      refine ⟨seenT_nodup d n, by simp, ?_⟩
      intro a ha b hb e
      rw [List.mem_singleton] at hb
      subst e hb
      exact hc (by simpa using ha)
theorem seenT_length (d : Array CaseD) : ∀ n, (seenT d n).length ≤ n
  | 0 => Nat.le_refl _
  | n + 1 => by
    have := seenT_length d n
    rw [seenT]
    split
    · omega
    · simp; omega
theorem lettersTo_nodup8 (d : Array CaseD) : (lettersTo d 8).Nodup := by
  have h := lettersZ_nodup d false
  have e : lettersZ d false = lettersTo d 8 := by simp [lettersZ]
  rwa [e] at h
theorem tgJ_letter8 {d : Array CaseD} {rest : Int} (h : SwOK d rest) {k : Nat} (hk : k < d.size) : 97 ≤ tgJ d k ∧ tgJ d k ≤ 104 := by
  have hc := h.case k hk
  simp [caseB, oneB, tgtB] at hc
  unfold tgJ
  omega
theorem seenT_all {d : Array CaseD} {rest : Int} (h : SwOK d rest) : (seenT d d.size).length = (lettersTo d 8).length :=
  ((List.perm_ext_iff_of_nodup (seenT_nodup d d.size) (lettersTo_nodup8 d)).2 fun x => by
    rw [seenT_mem, lettersTo_mem]
    constructor
    · rintro ⟨i, hi, rfl⟩
      have := tgJ_letter8 h hi
      exact ⟨(tgJ d i - 97).toNat, by omega, by omega, i, hi, rfl⟩
    · rintro ⟨_, _, _, j, h1, h2⟩
      exact ⟨j, h1, h2⟩).length_eq
theorem seenT_range {d : Array CaseD} {rest : Int} (h : SwOK d rest) {n : Nat} (hn : n ≤ d.size) : ∀ x ∈ seenT d n, 0 ≤ x ∧ x ≤ 255 := fun x hx => by
  obtain ⟨i, hi, rfl⟩ := (seenT_mem d x n).1 hx
  have := tgJ_letter8 h (show i < d.size by omega)
  omega

theorem strOf_one8 {c : Int} {b : UInt8} (h : c = (b.toNat : Int)) (l : List Int) : strOf (l ++ [c]) = strOf l ++ (⟨#[b]⟩ : ByteArray) := by
  rw [strOf_snoc]
  congr 1
  have : UInt8.ofNat c.toNat = b := by rw [h]; simp
  rw [this]
set_option maxRecDepth 100000 in
set_option maxHeartbeats 2000000 in
theorem l8Targets_any (b off cap : Nat) (d : Array CaseD) (rest : Int) (i k : Nat) (w : World) (hR : RowC w b off d) (hok : SwOK d rest) (hik : i ≤ k) (hk : k < d.size) (hcap : d.size ≤ cap) :
    Calls Tryz.prog 83 #[.agg #[.slice (some ⟨b, off, none⟩) d.size cap, .int .i64 rest], .int .i64 i, .int .i64 k] w fun x w' => x = .returned (.int .i64 ((lettersTo (subD d i k) 8).length : Int)) ∧ RowKit.Below w.heap.size w w' := by
  obtain ⟨e, he⟩ : ∃ e, e = subD d i k := ⟨_, rfl⟩
  have hsz : k + 1 - i = e.size := by rw [he, subD_size hk]
  have heok : SwOK e 0 := by rw [he]; exact hok.sub hk
  have HRE := Lib.hid (show RowC w b (off + i * 4) e by rw [he]; exact hR.sub hk)
  have HLN := Lib.hid (seenT_all heok)
  have HO := Lib.hid heok
  have h8 := heok.size
  have h80 := hok.size
  have h1 : (i : Int) ≤ 8 := by omega
  have h2 : (k : Int) ≤ 8 := by omega
  have h3 : (0 : Int) ≤ (i : Int) := by omega
  have h4 : (i : Int) ≤ (k : Int) + 1 := by omega
  have h5 : (k : Int) + 1 ≤ (cap : Int) := by omega
  rw [← he]
  clear hR hok heok he h80
  go_enter Tryz.func83, Tryz.ntmps83
  go_wp2_with fail
  obtain ⟨wa, hwa⟩ : ∃ wa, wa = w.alloc (.cells #[.slice (some ⟨b, off, none⟩) d.size cap, .int .i64 rest] 32) := ⟨_, rfl⟩
  have hba : RowKit.Below w.heap.size w wa := by rw [hwa]; exact (Below.refl _ _).alloc (Nat.le_refl _) _
  have HBA := Lib.hid hba
  have hza : w.heap.size ≤ wa.heap.size := hba.size
  rw [← hwa]
  clear hwa hba
  have HSZ := Lib.hid hsz
  clear hsz
  go_loopw [7, 17] (fun s x wr => ∃ j : Nat, s = .string (strOf (seenT e j)) ∧ x = .int .i64 j ∧ j ≤ e.size ∧ Hid (RowKit.Below w.heap.size w wr) ∧ w.heap.size ≤ wr.heap.size) (fun _ x _ => e.size - (intOf x).toNat)
  case atStart => exact ⟨0, rfl, rfl, Nat.zero_le _, HBA.out, hza⟩
  case round =>
    obtain ⟨j, rfl, rfl, hj, HW, hw2⟩ := hrel
    by_cases hlt : j < e.size
    · have hx := HRE.out.below HW.out
      have x0 := hx.low j hlt
      have x1 := hx.high j hlt
      have x2 := hx.target j hlt
      have x3 := hx.weight j hlt
      obtain ⟨bt, hbt, hbj⟩ := case_byte HO.out hlt
      have hlen := seenT_length e j
      have hsl : (strOf (seenT e j)).size = (seenT e j).length := strOf_size _
      have HRG := Lib.hid (seenT_range HO.out (Nat.le_of_lt hlt))
      clear hx
      obtain ⟨x, hxe⟩ : ∃ x, x = e[j]! := ⟨_, rfl⟩
      rw [← hxe] at x0 x1 x2 x3 hbt
      rw [hbt] at x2
      have HB1 := Lib.hid (show (seenT e j).contains (tgJ e j) = true → seenT e (j + 1) = seenT e j from fun h => by rw [seenT, if_pos h])
      have HB2 := Lib.hid (show ¬ (seenT e j).contains (tgJ e j) = true → strOf (seenT e (j + 1)) = strOf (seenT e j) ++ (⟨#[bt]⟩ : ByteArray) from fun h => by rw [seenT, if_neg h]; exact strOf_one8 hbj _)
      have hjn : tgJ e j = (bt.toNat : Int) := hbj
      by_cases hc : (seenT e j).contains (tgJ e j) = true
      · have HNX := Lib.hid (HB1.out hc)
        have hfz : 0 ≤ findZ (strOf (seenT e j)) (tgJ e j) := findZ_in HRG.out (by simpa using hc)
        rw [hjn] at hfz
        have hfind := fun W => l13Find_any (strOf (seenT e j)) (bt.toNat : Int) (by omega) W
        obtain ⟨z, hz⟩ : ∃ z, z = findZ (strOf (seenT e j)) (bt.toNat : Int) := ⟨_, rfl⟩
        rw [← hz] at hfz hfind
        obtain ⟨S, hS⟩ : ∃ S, S = strOf (seenT e j) := ⟨_, rfl⟩
        rw [← hS] at hfind hsl ⊢
        have HS := Lib.hid hS
        have HF := Lib.hid hfind
        clear hS hz hfind HB1 HB2 hc hjn hbj hbt hxe
        go_wp2_with (go_at_call 100; refine (HF.out _).mono ?_; rintro y w7 ⟨rfl, rfl⟩)
        go_roundw
        case rel => exact ⟨j + 1, by rw [HNX.out, HS.out], by go_num, by omega, HW.out.alloc hw2 _, by simp; omega⟩
        case measure => simp [intOf]; omega
      · have HNX := Lib.hid (HB2.out hc)
        have hfz : findZ (strOf (seenT e j)) (tgJ e j) < 0 := findZ_out HRG.out (by simpa using hc)
        rw [hjn] at hfz
        have hfind := fun W => l13Find_any (strOf (seenT e j)) (bt.toNat : Int) (by omega) W
        obtain ⟨z, hz⟩ : ∃ z, z = findZ (strOf (seenT e j)) (bt.toNat : Int) := ⟨_, rfl⟩
        rw [← hz] at hfz hfind
        obtain ⟨S, hS⟩ : ∃ S, S = strOf (seenT e j) := ⟨_, rfl⟩
        rw [← hS] at hfind hsl ⊢
        have HS := Lib.hid hS
        have HF := Lib.hid hfind
        clear hS hz hfind HB1 HB2 hc hjn hbj hbt hxe
        go_wp2_with (go_at_call 100; refine (HF.out _).mono ?_; rintro y w7 ⟨rfl, rfl⟩)
        go_roundw
        case rel => exact ⟨j + 1, by rw [HNX.out, HS.out], by go_num, by omega, HW.out.alloc hw2 _, by simp; omega⟩
        case measure => simp [intOf]; omega
    · have hje : j = e.size := by omega
      have hsl : (strOf (seenT e j)).size = (seenT e j).length := strOf_size _
      have HE := Lib.hid (show ((strOf (seenT e j)).size : Int) = ((lettersTo e 8).length : Int) by rw [hsl, hje, HLN.out])
      obtain ⟨S, hS⟩ : ∃ S, S = strOf (seenT e j) := ⟨_, rfl⟩
      rw [← hS] at HE ⊢
      clear hS hje hsl
      go_wp2_with fail
      go_ret
      exact ⟨retI HE.out, HW.out⟩

/-- What a cluster of a kind of that name costs. -/
def priceS (e : Array CaseD) (K : ByteArray) : Int := if K = testN8 then testE e else if K = tableN8 then tableE e else if K = bitsN8 then bitsE e else -1
theorem priceS_name (e : Array CaseD) : ∀ j, j < 3 → priceS e (nameK j) = priceE e j
  | 0, _ => if_pos rfl
  | 1, _ => by rw [priceS, if_neg (by decide)]; exact if_pos rfl
  | 2, _ => by rw [priceS, if_neg (by decide), if_neg (by decide)]; exact if_pos rfl
theorem list_ne {K L : ByteArray} (h : K ≠ L) : (K.toList == L.data.toList) = false := by
  rw [beq_eq_false_iff_ne, ByteArray.toList_eq]
  exact fun e => h (ByteArray.ext (Array.toList_inj.1 e))
set_option maxRecDepth 100000 in
set_option maxHeartbeats 2000000 in
theorem l8Cases_any (b off cap : Nat) (d : Array CaseD) (rest first last : Int) (w : World) (hR : RowC w b off d) (hcap : d.size ≤ cap) (hmax : cap ≤ maxLen) :
    Calls Tryz.prog 57 #[.agg #[.slice (some ⟨b, off, none⟩) d.size cap, .int .i64 rest], .int .i64 first, .int .i64 last] w fun x w' => x = .returned (.bool (hasB8 d rest first last)) ∧ RowKit.Below w.heap.size w w' := by
  have HV := Lib.hid (fun W (hW : RowKit.Below w.heap.size w W) => specValid_any b off cap d rest W (hR.below hW) hcap hmax)
  have HH := Lib.hid (show hasB8 d rest first last = (swB d rest && (inB first 0 last && inB last 0 ((d.size : Int) - 1))) by
    rw [hasB8, Bool.eq_iff_iff]
    simp [inB]
    intro _
    omega)
  have hdm : (d.size : Int) ≤ 9223372036854775807 := by unfold maxLen at hmax; omega
  obtain ⟨wa, hwa⟩ : ∃ wa, wa = w.alloc (.cells #[.slice (some ⟨b, off, none⟩) d.size cap, .int .i64 rest] 32) := ⟨_, rfl⟩
  have hba : RowKit.Below w.heap.size w wa := by rw [hwa]; exact (Below.refl _ _).alloc (Nat.le_refl _) _
  have c0 : wa.cell? ⟨w.heap.size, 0, none⟩ = some (.slice (some ⟨b, off, none⟩) d.size cap) := by rw [hwa]; simp
  have c1 : wa.cell? ⟨w.heap.size, 1, none⟩ = some (.int .i64 rest) := by rw [hwa]; simp
  have hz : w.heap.size < wa.heap.size := by rw [hwa]; simp
  have HWA := Lib.hid hwa
  have HBA := Lib.hid hba
  clear hwa hba hR hcap hmax
  cases hs : swB d rest with
  | false =>
    rw [hs] at HV HH
    clear hs
    go_enter Tryz.func57, Tryz.ntmps57
    go_wp2_with fail
    rw [← HWA.out]
    go_wp2_with fail
    refine (HV.out _ HBA.out).mono ?_
    rintro y w1 ⟨rfl, hb⟩
    have HB := Lib.hid (HBA.out.trans (hb.mono HBA.out.size))
    clear hb c0 c1
    go_wp2_with fail
    go_ret
    exact ⟨retB (by rw [HH.out]; rfl), HB.out⟩
  | true =>
    rw [hs] at HV HH
    clear hs
    have HI1 := Lib.hid (fun W => l1In_any first 0 last W)
    have HI2 := Lib.hid (fun W => l1In_any last 0 ((d.size : Int) - 1) W)
    cases h1 : inB first 0 last with
    | false =>
      rw [h1] at HI1 HH
      clear h1
      go_enter Tryz.func57, Tryz.ntmps57
      go_wp2_with fail
      rw [← HWA.out]
      go_wp2_with fail
      refine (HV.out _ HBA.out).mono ?_
      rintro y w1 ⟨rfl, hb⟩
      have HB := Lib.hid (HBA.out.trans (hb.mono HBA.out.size))
      clear hb c0 c1
      go_wp2_with (go_at_call 35; refine (HI1.out _).mono ?_; rintro y w7 ⟨rfl, rfl⟩)
      go_ret
      exact ⟨retB (by rw [HH.out]; rfl), HB.out⟩
    | true =>
      rw [h1] at HI1 HH
      clear h1
      obtain ⟨q, hq⟩ : ∃ q, q = inB last 0 ((d.size : Int) - 1) := ⟨_, rfl⟩
      rw [← hq] at HI2 HH
      clear hq
      go_enter Tryz.func57, Tryz.ntmps57
      go_wp2_with fail
      rw [← HWA.out]
      go_wp2_with fail
      refine (HV.out _ HBA.out).mono ?_
      rintro y w1 ⟨rfl, hb⟩
      have HB := Lib.hid (HBA.out.trans (hb.mono HBA.out.size))
      have e0 := (hb.cell (p := ⟨w.heap.size, 0, none⟩) hz).trans c0
      clear hb c0 c1
      go_wp2_with (first | (go_at_call 35; with_reducible refine (HI1.out _).mono ?_; rintro y w7 ⟨rfl, rfl⟩) | (go_at_call 35; with_reducible refine (HI2.out _).mono ?_; rintro y w8 ⟨rfl, rfl⟩))
      all_goals
        go_ret
        exact ⟨retB (by rw [HH.out]; simp), HB.out⟩

theorem span_sub {d : Array CaseD} {i k : Nat} (hik : i ≤ k) (hk : k < d.size) : spanE (subD d i k) = d[k]!.high - d[i]!.low + 1 := by
  have h1 := subD_get (i := i) (j := 0) hk (by omega)
  have h2 := subD_get (i := i) (j := k + 1 - i - 1) hk (by omega)
  rw [spanE, subD_size hk, h1, h2, show i + (k + 1 - i - 1) = k by omega, Nat.add_zero]
theorem testE_sub {d : Array CaseD} {i k : Nat} (hik : i ≤ k) (hk : k < d.size) : testE (subD d i k) = if i = k then 1 + tcost d[i]! else -1 := by
  have h1 := subD_get (i := i) (j := 0) hk (by omega)
  rw [Nat.add_zero] at h1
  rw [testE, subD_size hk, h1]
  by_cases h : i = k
  · rw [if_pos h, if_pos (by omega)]; rfl
  · rw [if_neg h, if_neg (by omega)]
set_option maxRecDepth 100000 in
set_option maxHeartbeats 2000000 in
theorem specPrice_any (b off cap : Nat) (d : Array CaseD) (rest : Int) (i k : Nat) (K : ByteArray) (w : World) (hR : RowC w b off d) (hok : SwOK d rest) (hik : i ≤ k) (hk : k < d.size) (hcap : d.size ≤ cap) :
    Calls Tryz.prog 58 #[.agg #[.slice (some ⟨b, off, none⟩) d.size cap, .int .i64 rest], .int .i64 i, .int .i64 k, .string K] w fun x w' => x = .returned (.int .i64 (priceS (subD d i k) K)) ∧ RowKit.Below w.heap.size w w' := by
  have HTG := Lib.hid (fun W (hW : RowKit.Below w.heap.size w W) => l8Targets_any b off cap d rest i k W (hR.below hW) hok hik hk hcap)
  have hi : i < d.size := by omega
  have h8 := hok.size
  have x0 := hR.low i hi
  have x1 := hR.high i hi
  have x2 := hR.target i hi
  have x3 := hR.weight i hi
  have y1 := hR.high k hk
  have ho := hR.old
  have c0 := caseB_low (hok.case i hi)
  have c1 := caseB_high (hok.case k hk)
  have HCO := Lib.hid (fun W => l3Cost_any d[i]! W)
  have htc := tcost_bounds d[i]!
  have hln := lettersTo_length (subD d i k) 8
  have hspb := spanE_bounds (hok.sub (i := i) hk) (by rw [subD_size hk]; omega)
  have HSP := Lib.hid (span_sub hik hk)
  have HT1 := Lib.hid (testE_sub hik hk)
  have HT2 := Lib.hid (show tableE (subD d i k) = 4 + (spanE (subD d i k)).tdiv 4 from rfl)
  have HT3 := Lib.hid (show bitsE (subD d i k) = if 16 < spanE (subD d i k) then -1 else 2 + 2 * ((lettersTo (subD d i k) 8).length : Int) from rfl)
  have HPS := Lib.hid (show priceS (subD d i k) K = if K = testN8 then testE (subD d i k) else if K = tableN8 then tableE (subD d i k) else if K = bitsN8 then bitsE (subD d i k) else -1 from rfl)
  obtain ⟨e, he⟩ : ∃ e, e = subD d i k := ⟨_, rfl⟩
  rw [← he] at HTG hln hspb HSP HT1 HT2 HT3 HPS ⊢
  obtain ⟨sp, hsp⟩ : ∃ sp, sp = spanE e := ⟨_, rfl⟩
  rw [← hsp] at hspb HSP HT2 HT3
  obtain ⟨m, hm⟩ : ∃ m, m = (lettersTo e 8).length := ⟨_, rfl⟩
  rw [← hm] at HTG hln HT3
  obtain ⟨c, hc⟩ : ∃ c, c = d[i]! := ⟨_, rfl⟩
  rw [← hc] at x0 x1 x2 x3 c0 HCO htc HSP HT1
  obtain ⟨hi2, hh2⟩ : ∃ h, h = d[k]!.high := ⟨_, rfl⟩
  rw [← hh2] at y1 c1 HSP
  unfold aggC at HCO
  have hsp2 : hi2 - c.low + 1 = sp := HSP.out.symm
  have hki : (k : Int) < (d.size : Int) := by omega
  have hii : (i : Int) < (d.size : Int) := by omega
  obtain ⟨wa, hwa⟩ : ∃ wa, wa = w.alloc (.cells #[.slice (some ⟨b, off, none⟩) d.size cap, .int .i64 rest] 32) := ⟨_, rfl⟩
  have hba : RowKit.Below w.heap.size w wa := by rw [hwa]; exact (Below.refl _ _).alloc (Nat.le_refl _) _
  have c0' : wa.cell? ⟨w.heap.size, 0, none⟩ = some (.slice (some ⟨b, off, none⟩) d.size cap) := by rw [hwa]; simp
  have c1' : wa.cell? ⟨w.heap.size, 1, none⟩ = some (.int .i64 rest) := by rw [hwa]; simp
  have z0 := (hba.cell (p := ⟨b, off + i * 4, none⟩) ho).trans x0
  have z1 := (hba.cell (p := ⟨b, off + i * 4 + 1, none⟩) ho).trans x1
  have z2 := (hba.cell (p := ⟨b, off + i * 4 + 2, none⟩) ho).trans x2
  have z3 := (hba.cell (p := ⟨b, off + i * 4 + 3, none⟩) ho).trans x3
  have u1 := (hba.cell (p := ⟨b, off + k * 4 + 1, none⟩) ho).trans y1
  have HWA := Lib.hid hwa
  have HBA := Lib.hid hba
  have hdv : sp.tdiv 4 = sp / 4 := Int.tdiv_eq_ediv_of_nonneg (by omega)
  have hq0 : 0 ≤ sp.tdiv 4 := by omega
  have hq1 : sp.tdiv 4 ≤ 8 := by omega
  clear hR hok he hsp hm hc hh2 hwa hba x0 x1 x2 x3 y1 ho hdv HSP
  by_cases hk1 : K = testN8
  · have HP := Lib.hid ((HPS.out.trans (if_pos hk1)).trans HT1.out)
    subst hk1
    by_cases heq : i = k
    · have HP2 := Lib.hid (HP.out.trans (if_pos heq))
      have hq : ((i : Int) != (k : Int)) = false := by simp [heq]
      have hq' : ((i : Int) == (k : Int)) = true := by simp [heq]
      clear heq
      unfold testN8
      go_enter Tryz.func58, Tryz.ntmps58
      go_wp2_with fail
      rw [← HWA.out]
      go_quiet (fail)
      go_wp2_with (go_at_call 82; refine (HCO.out _).mono ?_; rintro y w7 ⟨rfl, hb7⟩)
      go_ret
      exact ⟨retI HP2.out.symm, (below_drewN HBA.out _).trans (hb7.mono (by simpa using HBA.out.size))⟩
    · have HP2 := Lib.hid (HP.out.trans (if_neg heq))
      have hq : ((i : Int) != (k : Int)) = true := by simp; omega
      have hq' : ((i : Int) == (k : Int)) = false := by simp; omega
      clear heq
      unfold testN8
      go_enter Tryz.func58, Tryz.ntmps58
      go_wp2_with fail
      rw [← HWA.out]
      go_quiet (fail)
      go_wp2_with fail
      go_ret
      exact ⟨retI HP2.out.symm, below_drewN HBA.out _⟩
  · have hl1 := list_ne hk1
    by_cases hk2 : K = tableN8
    · have HP := Lib.hid (((HPS.out.trans (if_neg hk1)).trans (if_pos hk2)).trans HT2.out)
      subst hk2
      clear hl1 hk1
      unfold tableN8
      go_enter Tryz.func58, Tryz.ntmps58
      go_wp2_with fail
      rw [← HWA.out]
      go_quiet (fail)
      go_wp2_with fail
      go_ret
      exact ⟨retI HP.out.symm, below_drewN HBA.out _⟩
    · have hl2 := list_ne hk2
      by_cases hk3 : K = bitsN8
      · have HP := Lib.hid ((((HPS.out.trans (if_neg hk1)).trans (if_neg hk2)).trans (if_pos hk3)).trans HT3.out)
        subst hk3
        clear hl1 hk1 hl2 hk2
        unfold bitsN8
        by_cases h16 : 16 < sp
        · have HP2 := Lib.hid (HP.out.trans (if_pos h16))
          go_enter Tryz.func58, Tryz.ntmps58
          go_wp2_with fail
          rw [← HWA.out]
          go_quiet (fail)
          go_wp2_with fail
          go_ret
          exact ⟨retI HP2.out.symm, below_drewN HBA.out _⟩
        · have HP2 := Lib.hid (HP.out.trans (if_neg h16))
          have hm8 : (m : Int) ≤ 8 := by omega
          go_enter Tryz.func58, Tryz.ntmps58
          go_wp2_with fail
          rw [← HWA.out]
          go_quiet (fail)
          go_wp2_with (go_at_call 83; refine (HTG.out _ (below_drewN HBA.out _)).mono ?_; rintro y w7 ⟨rfl, hb7⟩)
          go_ret
          exact ⟨retI HP2.out.symm, (below_drewN HBA.out _).trans (hb7.mono (by simpa using HBA.out.size))⟩
      · have hl3 := list_ne hk3
        have HP := Lib.hid (((HPS.out.trans (if_neg hk1)).trans (if_neg hk2)).trans (if_neg hk3))
        unfold testN8 at hl1
        unfold tableN8 at hl2
        unfold bitsN8 at hl3
        simp only at hl1 hl2 hl3
        clear hk1 hk2 hk3
        go_enter Tryz.func58, Tryz.ntmps58
        go_wp2_with fail
        rw [← HWA.out]
        go_quiet (fail)
        go_wp2_with fail
        go_ret
        exact ⟨retI HP.out.symm, below_drewN HBA.out _⟩

set_option maxRecDepth 100000 in
set_option maxHeartbeats 4000000 in
theorem l8Best_any (b off cap : Nat) (d : Array CaseD) (rest : Int) (i k : Nat) (w : World) (hR : RowC w b off d) (hok : SwOK d rest) (hik : i ≤ k) (hk : k < d.size) (hcap : d.size ≤ cap) :
    Calls Tryz.prog 65 #[.agg #[.slice (some ⟨b, off, none⟩) d.size cap, .int .i64 rest], .int .i64 i, .int .i64 k] w fun x w' =>
      x = .returned (.tuple #[.string (bestN8 (subD d i k)), .int .i64 (bestP8 (subD d i k))]) ∧ RowKit.Below w.heap.size w w' := by
  have HPR := Lib.hid (fun K W (hW : RowKit.Below w.heap.size w W) => specPrice_any b off cap d rest i k K W (hR.below hW) hok hik hk hcap)
  obtain ⟨e, he⟩ : ∃ e, e = subD d i k := ⟨_, rfl⟩
  have he0 : 0 < e.size := by rw [he, subD_size hk]; omega
  have heok : SwOK e 0 := by rw [he]; exact hok.sub hk
  rw [← he] at HPR ⊢
  have HBD := Lib.hid (fun j => bestTo8_or heok he0 j)
  have HPD := Lib.hid (fun j => priceE_or heok he0 j)
  have HY := Lib.hid (fun j => @bestTo8_yes e j)
  have HN := Lib.hid (fun j => @bestTo8_no e j)
  have HE2 := Lib.hid (show bestTo8 e 3 = (bestN8 e, bestP8 e) from rfl)
  clear heok he0 he hR hok
  go_enter Tryz.func65, Tryz.ntmps65
  go_wp2_with fail
  obtain ⟨wa, hwa⟩ : ∃ wa, wa = (w.alloc (.cells #[.slice (some ⟨b, off, none⟩) d.size cap, .int .i64 rest] 32)).alloc (.cells #[.string testN8, .string tableN8, .string bitsN8] 9) := ⟨_, rfl⟩
  have hba : RowKit.Below w.heap.size w wa := by rw [hwa]; exact ((Below.refl _ _).alloc (Nat.le_refl _) _).alloc (by simp) _
  have z0 : wa.heap.size = w.heap.size + 2 := by rw [hwa]; simp
  have a0 : wa.cell? ⟨w.heap.size, 0, none⟩ = some (.slice (some ⟨b, off, none⟩) d.size cap) := by rw [hwa]; simp [go_sem]
  have a1 : wa.cell? ⟨w.heap.size, 1, none⟩ = some (.int .i64 rest) := by rw [hwa]; simp [go_sem]
  have k0 : ∀ j, j < 3 → wa.cell? ⟨w.heap.size + 1, j, none⟩ = some (.string (nameK j)) := fun j hj => by
    match j, hj with
    | 0, _ => rw [hwa]; simp [go_sem, nameK]
    | 1, _ => rw [hwa]; simp [go_sem, nameK]
    | 2, _ => rw [hwa]; simp [go_sem, nameK]
  have hww := hwa
  unfold testN8 tableN8 bitsN8 at hww
  rw [← hww]
  have HBA := Lib.hid hba
  have HK0 := Lib.hid k0
  have hzz : w.heap.size + 1 < wa.heap.size := by omega
  clear hwa hww hba z0 k0
  go_loopw [8, 9, 15] (fun s l x wr => ∃ j : Nat, s = .string (bestTo8 e j).1 ∧ l = .int .i64 (bestTo8 e j).2 ∧ x = .int .i64 j ∧ j ≤ 3 ∧
    wr.cell? ⟨w.heap.size, 0, none⟩ = some (.slice (some ⟨b, off, none⟩) d.size cap) ∧ wr.cell? ⟨w.heap.size, 1, none⟩ = some (.int .i64 rest) ∧
    Hid (∀ q, q < 3 → wr.cell? ⟨w.heap.size + 1, q, none⟩ = some (.string (nameK q))) ∧
    Hid (RowKit.Below w.heap.size w wr) ∧ w.heap.size + 1 < wr.heap.size) (fun _ _ x _ => 3 - (intOf x).toNat)
  case atStart => exact ⟨0, rfl, rfl, rfl, by omega, a0, a1, HK0.out, HBA.out, hzz⟩
  case round =>
    obtain ⟨j, rfl, rfl, rfl, hj, a0, a1, KK, HW, hzr⟩ := hrel
    by_cases hlt : j < 3
    · have kj := KK.out j hlt
      have hcs := betterP_cases (HPD.out j) (HBD.out j)
      have HYJ := Lib.hid (HY.out j)
      have HNJ := Lib.hid (HN.out j)
      have hpj := HPR.out (nameK j) wr HW.out
      rw [priceS_name e j hlt] at hpj
      have HPJ := Lib.hid hpj
      obtain ⟨l, hl⟩ : ∃ l, l = (bestTo8 e j).2 := ⟨_, rfl⟩
      obtain ⟨s, hs⟩ : ∃ s, s = (bestTo8 e j).1 := ⟨_, rfl⟩
      obtain ⟨p, hp⟩ : ∃ p, p = priceE e j := ⟨_, rfl⟩
      have HS := Lib.hid (show bestTo8 e j = (s, l) by rw [hl, hs])
      rw [← hl] at hcs HYJ HNJ ⊢
      rw [← hs]
      rw [← hp] at hcs HPJ HYJ HNJ
      clear hl hs hp hpj
      have hji : (j : Int) < 3 := by omega
      rcases hcs with ⟨rfl, hbt⟩ | ⟨hp, rfl, hbt⟩ | ⟨hp, hl, hpl, hbt⟩ | ⟨hp, hl, hpl, hbt⟩
      · have HNX := Lib.hid ((HNJ.out hbt).trans HS.out)
        clear hbt
        go_wp2_with (go_at_call 58; refine HPJ.out.mono ?_; rintro y w2 ⟨rfl, hb⟩; have HB := Lib.hid hb; have A0 := (hb.cell (p := ⟨w.heap.size, 0, none⟩) (Nat.lt_of_succ_lt hzr)).trans a0; have A1 := (hb.cell (p := ⟨w.heap.size, 1, none⟩) (Nat.lt_of_succ_lt hzr)).trans a1; clear hb a0 a1)
        go_roundw
        case rel => exact ⟨j + 1, by rw [HNX.out], by rw [HNX.out], by go_num, by omega, A0, A1, fun q hq => (HB.out.cell (p := ⟨w.heap.size + 1, q, none⟩) hzr).trans (KK.out q hq), HW.out.trans (HB.out.mono HW.out.size), Nat.lt_of_lt_of_le hzr HB.out.size⟩
        case measure => simp [intOf]; omega
      · have HNX := Lib.hid (HYJ.out hbt)
        clear hbt
        go_wp2_with (go_at_call 58; refine HPJ.out.mono ?_; rintro y w2 ⟨rfl, hb⟩; have HB := Lib.hid hb; have A0 := (hb.cell (p := ⟨w.heap.size, 0, none⟩) (Nat.lt_of_succ_lt hzr)).trans a0; have A1 := (hb.cell (p := ⟨w.heap.size, 1, none⟩) (Nat.lt_of_succ_lt hzr)).trans a1; clear hb a0 a1)
        go_roundw
        case rel => exact ⟨j + 1, by rw [HNX.out], by rw [HNX.out], by go_num, by omega, A0, A1, fun q hq => (HB.out.cell (p := ⟨w.heap.size + 1, q, none⟩) hzr).trans (KK.out q hq), HW.out.trans (HB.out.mono HW.out.size), Nat.lt_of_lt_of_le hzr HB.out.size⟩
        case measure => simp [intOf]; omega
      · have HNX := Lib.hid (HYJ.out hbt)
        clear hbt
        go_wp2_with (go_at_call 58; refine HPJ.out.mono ?_; rintro y w2 ⟨rfl, hb⟩; have HB := Lib.hid hb; have A0 := (hb.cell (p := ⟨w.heap.size, 0, none⟩) (Nat.lt_of_succ_lt hzr)).trans a0; have A1 := (hb.cell (p := ⟨w.heap.size, 1, none⟩) (Nat.lt_of_succ_lt hzr)).trans a1; clear hb a0 a1)
        go_roundw
        case rel => exact ⟨j + 1, by rw [HNX.out], by rw [HNX.out], by go_num, by omega, A0, A1, fun q hq => (HB.out.cell (p := ⟨w.heap.size + 1, q, none⟩) hzr).trans (KK.out q hq), HW.out.trans (HB.out.mono HW.out.size), Nat.lt_of_lt_of_le hzr HB.out.size⟩
        case measure => simp [intOf]; omega
      · have HNX := Lib.hid ((HNJ.out hbt).trans HS.out)
        clear hbt
        go_wp2_with (go_at_call 58; refine HPJ.out.mono ?_; rintro y w2 ⟨rfl, hb⟩; have HB := Lib.hid hb; have A0 := (hb.cell (p := ⟨w.heap.size, 0, none⟩) (Nat.lt_of_succ_lt hzr)).trans a0; have A1 := (hb.cell (p := ⟨w.heap.size, 1, none⟩) (Nat.lt_of_succ_lt hzr)).trans a1; clear hb a0 a1)
        go_roundw
        case rel => exact ⟨j + 1, by rw [HNX.out], by rw [HNX.out], by go_num, by omega, A0, A1, fun q hq => (HB.out.cell (p := ⟨w.heap.size + 1, q, none⟩) hzr).trans (KK.out q hq), HW.out.trans (HB.out.mono HW.out.size), Nat.lt_of_lt_of_le hzr HB.out.size⟩
        case measure => simp [intOf]; omega
    · have hj3 : j = 3 := by omega
      subst hj3
      simp only [HE2.out]
      go_wp2_with fail
      refine bodyPost_ret (v := .tuple #[.string (bestN8 e), .int .i64 (bestP8 e)]) (by simp [results, Tryz.results65, go_sem]) rfl ⟨rfl, HW.out⟩
end Go.Proofs.YtjpcpiffffobcaaGreatDoor
