
/- Words: what l7Target, l7Mask, l7Weight of the model return. -/
import Derived.Test.YtbhamkmiagdimaaDoorKsWordS
namespace Go.Proofs.YtbhamkmiagdimaaDoor
open Go.RowKit Go.Shelf Go.Lib Go.Sort

theorem same_one {s t : ByteArray} (hs : s.size = 1) (ht : t.size = 1) : (s.toList == t.toList) = decide (tg0 s = tg0 t) := by
  obtain ⟨a, rfl⟩ := one_byte hs
  obtain ⟨b, rfl⟩ := one_byte ht
  rw [Bool.eq_iff_iff, beq_iff_eq, decide_eq_true_iff, ByteArray.toList_eq, ByteArray.toList_eq]
  have e1 : tg0 ⟨#[a]⟩ = (a.toNat : Int) := rfl
  have e2 : tg0 ⟨#[b]⟩ = (b.toNat : Int) := rfl
  rw [e1, e2]
  constructor
  · intro h
    have : a = b := by simpa using h
    rw [this]
  · intro h
    have : a = b := UInt8.toNat_inj.1 (by omega)
    rw [this]

theorem same_z {s : ByteArray} (hs : s.size = 1) : (s.toList == [122]) = decide (tg0 s = 122) := by
  have h := same_one (t := (⟨#[122]⟩ : ByteArray)) hs rfl
  have e : (⟨#[122]⟩ : ByteArray).toList = [122] := by rw [ByteArray.toList_eq]
  rw [e] at h
  exact h
theorem wrap64_pow {k : Nat} (h : k < 32) : wrap64 (2 ^ k) = ((2 ^ k : Nat) : Int) := by
  have h1 := pow_lt h
  have h2 : (2 : Int) ^ k = ((2 ^ k : Nat) : Int) := by simp
  rw [h2]
  generalize 2 ^ k = p at h1
  unfold wrap64
  omega

set_option maxRecDepth 100000 in
set_option maxHeartbeats 1000000 in
theorem l7Target_any (s : ByteArray) (w : World) : Calls Tryd.prog 48 #[.string s] w fun x w' => x = .returned (.bool (oneB s)) ∧ w = w' := by
  by_cases h1 : s.size = 1
  · have h0 : 0 < s.size := by omega
    have hi : (s.size : Int) = 1 := by omega
    have hz : ¬ ((s.size : Int) = 0) := by omega
    have ht : tg0 s = (s[0].toNat : Int) := by rw [tg0, dif_pos h0]
    have hlt : s[0].toNat < 256 := s[0].toNat_lt
    have hcall : ∀ W, Calls Tryd.prog 75 #[.int .i64 (wrap64 (s[0].toNat : Int)), .int .i64 97, .int .i64 104] W fun e w' => e = .returned (.bool (oneB s)) ∧ W = w' := fun W => by
      have e : wrap64 (s[0].toNat : Int) = (s[0].toNat : Int) := by unfold wrap64; omega
      have e2 : oneB s = inB (s[0].toNat : Int) 97 104 := by rw [oneB, decide_eq_true h1, Bool.true_and, ht]; rfl
      rw [e, e2]
      exact l1In_any _ 97 104 W
    have HC := Lib.hid hcall
    clear hcall ht hlt h1
    go_enter Tryd.func48, Tryd.ntmps48
    go_wp2_with (go_at_call 75; refine (HC.out _).mono ?_; rintro y w2 ⟨rfl, rfl⟩)
    go_ret
    exact ⟨rfl, rfl⟩
  · have hi : ¬ ((s.size : Int) = 1) := by omega
    have HL := Lib.hid (show oneB s = false by simp [oneB, h1])
    go_enter Tryd.func48, Tryd.ntmps48
    go_wp2
    go_ret
    exact ⟨retB HL.out.symm, rfl⟩

set_option maxRecDepth 100000 in
set_option maxHeartbeats 2000000 in
theorem l7Mask_any (b off cap : Nat) (d : Array CaseD) (rest : Int) (s : ByteArray) (w : World) (hR : RowC w b off d) (hok : SwOK d rest) (hs : s.size = 1) :
    Calls Tryd.prog 49 #[.agg #[.slice (some ⟨b, off, none⟩) d.size cap, .int .i64 rest], .string s] w fun x w' => x = .returned (.int .i64 (wordN d (tg0 s) 32)) ∧ RowKit.Below w.heap.size w w' := by
  have HG := Lib.hid (fun (key : Int) W (hW : RowKit.Below w.heap.size w W) => l1Goes_any b off cap d rest key W (hR.below hW) hok.size)
  have HO := Lib.hid hok
  have HS := Lib.hid hs
  obtain ⟨wa, hwa⟩ : ∃ wa, wa = w.alloc (.cells #[.slice (some ⟨b, off, none⟩) d.size cap, .int .i64 rest] 32) := ⟨_, rfl⟩
  have c0 : wa.cell? ⟨w.heap.size, 0, none⟩ = some (.slice (some ⟨b, off, none⟩) d.size cap) := by rw [hwa]; simp
  have c1 : wa.cell? ⟨w.heap.size, 1, none⟩ = some (.int .i64 rest) := by rw [hwa]; simp
  have hz : w.heap.size < wa.heap.size := by rw [hwa]; simp
  have hba : RowKit.Below w.heap.size w wa := by rw [hwa]; exact (Below.refl _ _).alloc (Nat.le_refl _) _
  have HA := Lib.hid hba
  have C0 := Lib.hid c0
  have C1 := Lib.hid c1
  have HWA := Lib.hid hwa
  clear hba c0 c1 hwa hR hok hs
  go_enter Tryd.func49, Tryd.ntmps49
  go_wp2_with fail
  rw [← HWA.out]
  have HB0 := Lib.hid (Below.refl wa.heap.size wa)
  go_loopw [5, 6] (fun v i wr => ∃ k : Nat, i = .int .i64 k ∧ k ≤ 32 ∧ v = .int .i64 (wordN d (tg0 s) k) ∧ Hid (RowKit.Below wa.heap.size wa wr) ∧ wa.heap.size ≤ wr.heap.size) (fun _ i _ => 32 - (intOf i).toNat)
  case atStart => exact ⟨0, rfl, by omega, rfl, HB0.out, Nat.le_refl _⟩
  case round =>
    obtain ⟨k, rfl, hk, rfl, HW, hw2⟩ := hrel
    have HWW := Lib.hid (HA.out.trans (HW.out.mono (by omega)))
    have b0 := (HW.out.cell (p := ⟨w.heap.size, 0, none⟩) hz).trans C0.out
    have b1 := (HW.out.cell (p := ⟨w.heap.size, 1, none⟩) hz).trans C1.out
    by_cases hlt : k < 32
    · have hki : (k : Int) ≤ 31 := by omega
      have heq := same_one (goesN_size HO.out (k : Int)) HS.out
      have HGK := Lib.hid (HG.out (k : Int) _ HWW.out)
      have HHIT := Lib.hid (wordN_hit (d := d) (t := tg0 s) (n := k))
      have HMISS := Lib.hid (wordN_miss (d := d) (t := tg0 s) (n := k))
      have hgd : tg0 (goesN d (k : Int)) = goB d k := rfl
      rw [hgd] at heq
      have hm := wordN_lt d (tg0 s) (n := k) (by omega)
      have hor : bits .or .i64 (wordN d (tg0 s) k : Int) ((2 ^ k : Nat) : Int) = ((wordN d (tg0 s) k ||| 2 ^ k : Nat) : Int) := or_i64 hm (pow_lt hlt)
      obtain ⟨m, hme⟩ : ∃ m, m = wordN d (tg0 s) k := ⟨_, rfl⟩
      rw [← hme] at HHIT HMISS hor hm ⊢
      clear hme
      obtain ⟨t, hte⟩ : ∃ t, t = goesN d (k : Int) := ⟨_, rfl⟩
      rw [← hte] at heq HGK
      clear hte hgd
      by_cases hq : goB d k = tg0 s
      · rw [decide_eq_true hq] at heq
        have HQ := Lib.hid hq
        clear hq
        go_wp2_with (go_at_call 87; refine HGK.out.mono ?_; rintro y w7 ⟨rfl, hb7⟩; have HB7 := Lib.hid (HW.out.trans (hb7.mono hw2)); clear hb7)
        go_roundw
        case rel => exact ⟨k + 1, by go_num, by omega, by rw [HHIT.out HQ.out, wrap64_pow hlt, hor], HB7.out, HB7.out.size⟩
        case measure => simp [intOf]; omega
      · rw [decide_eq_false hq] at heq
        have HQ := Lib.hid hq
        clear hq
        go_wp2_with (go_at_call 87; refine HGK.out.mono ?_; rintro y w7 ⟨rfl, hb7⟩; have HB7 := Lib.hid (HW.out.trans (hb7.mono hw2)); clear hb7)
        go_roundw
        case rel => exact ⟨k + 1, by go_num, by omega, by rw [HMISS.out HQ.out], HB7.out, HB7.out.size⟩
        case measure => simp [intOf]; omega
    · have hke : k = 32 := by omega
      subst hke
      go_wp2_with fail
      go_ret
      exact ⟨rfl, HWW.out⟩

theorem caseW_size {c : CaseD} (h : caseB c = true) : c.target.size = 1 := by simp [caseB, oneB] at h; exact h.1.1.1.1.1
theorem wgtE_at (d : Array CaseD) (t : Int) (k : Nat) : wgtS d t (k + 1) = if tgJ d k = t then wgtS d t k + d[k]!.weight else wgtS d t k := by
  by_cases h : tgJ d k = t
  · rw [if_pos h, wgtS_hit h]
  · rw [if_neg h, wgtS_miss h]

set_option maxRecDepth 100000 in
set_option maxHeartbeats 2000000 in
theorem l7Weight_any (b off cap : Nat) (d : Array CaseD) (rest : Int) (s : ByteArray) (w : World) (hR : RowC w b off d) (hok : SwOK d rest) (hs : s.size = 1) :
    Calls Tryd.prog 52 #[.agg #[.slice (some ⟨b, off, none⟩) d.size cap, .int .i64 rest], .string s] w fun x w' => x = .returned (.int .i64 (wgtT d rest (tg0 s))) ∧ RowKit.Below w.heap.size w w' := by
  have HR := Lib.hid hR
  have HO := Lib.hid hok
  have HS := Lib.hid hs
  have h8 : (d.size : Int) ≤ 8 := by have := hok.size; omega
  have HLE := Lib.hid (wgtS_le hok (tg0 s))
  have hzz := same_z hs
  obtain ⟨wa, hwa⟩ : ∃ wa, wa = w.alloc (.cells #[.slice (some ⟨b, off, none⟩) d.size cap, .int .i64 rest] 32) := ⟨_, rfl⟩
  have c0 : wa.cell? ⟨w.heap.size, 0, none⟩ = some (.slice (some ⟨b, off, none⟩) d.size cap) := by rw [hwa]; simp
  have c1 : wa.cell? ⟨w.heap.size, 1, none⟩ = some (.int .i64 rest) := by rw [hwa]; simp
  have hz : w.heap.size < wa.heap.size := by rw [hwa]; simp
  have hba : RowKit.Below w.heap.size w wa := by rw [hwa]; exact (Below.refl _ _).alloc (Nat.le_refl _) _
  have HA := Lib.hid hba
  have C0 := Lib.hid c0
  have C1 := Lib.hid c1
  have HWA := Lib.hid hwa
  have HZZ := Lib.hid hzz
  clear hba c0 c1 hwa hR hok hs hzz
  have HWT := Lib.hid (show wgtT d rest (tg0 s) = if tg0 s = 122 then rest else wgtS d (tg0 s) d.size from rfl)
  obtain ⟨tz, htz⟩ : ∃ tz, tz = tg0 s := ⟨_, rfl⟩
  rw [← htz] at HLE HZZ HWT ⊢
  have HTZ := Lib.hid htz
  clear htz
  have a0 := C0.out
  go_enter Tryd.func52, Tryd.ntmps52
  go_wp2_with fail
  rw [← HWA.out]
  have HB0 := Lib.hid (Below.refl wa.heap.size wa)
  go_wp2_with fail
  go_loopw [5, 11] (fun v i wr => ∃ k : Nat, i = .int .i64 k ∧ k ≤ d.size ∧ v = .int .i64 (wgtS d tz k) ∧ Hid (RowKit.Below wa.heap.size wa wr) ∧ wa.heap.size ≤ wr.heap.size) (fun _ i _ => d.size - (intOf i).toNat)
  case atStart => exact ⟨0, rfl, by omega, rfl, HB0.out, Nat.le_refl _⟩
  case round =>
    obtain ⟨k, rfl, hk, rfl, HW, hw2⟩ := hrel
    have HWW := Lib.hid (HA.out.trans (HW.out.mono (by omega)))
    have b0 := (HW.out.cell (p := ⟨w.heap.size, 0, none⟩) hz).trans C0.out
    have b1 := (HW.out.cell (p := ⟨w.heap.size, 1, none⟩) hz).trans C1.out
    by_cases hlt : k < d.size
    · have hx := HR.out.below HWW.out
      have x0 := hx.low k hlt
      have x1 := hx.high k hlt
      have x2 := hx.target k hlt
      have x3 := hx.weight k hlt
      have heq := same_one (caseW_size (HO.out.case k hlt)) HS.out
      have htj : tg0 d[k]!.target = tgJ d k := rfl
      rw [htj, ← HTZ.out] at heq
      have hl := HLE.out k (by omega)
      have hwt := caseB_weight (HO.out.case k hlt)
      have HAT := Lib.hid (wgtE_at d tz k)
      clear hx
      obtain ⟨x, hxe⟩ : ∃ x, x = d[k]! := ⟨_, rfl⟩
      rw [← hxe] at x0 x1 x2 x3 heq hwt HAT
      clear hxe htj
      obtain ⟨m, hme⟩ : ∃ m, m = wgtS d tz k := ⟨_, rfl⟩
      rw [← hme] at hl HAT ⊢
      clear hme
      have hm1 : 0 ≤ m := hl.1
      have hm2 : m ≤ 800 := by omega
      have hv1 := hwt.1
      have hv2 := hwt.2
      clear hl hwt
      by_cases hq : tgJ d k = tz
      · rw [decide_eq_true hq] at heq
        have HQ := Lib.hid hq
        clear hq
        go_wp2_with fail
        go_roundw
        case rel => exact ⟨k + 1, by go_num, by omega, by rw [HAT.out, if_pos HQ.out], HW.out.alloc (by omega) _, by simp; omega⟩
        case measure => simp [intOf]; omega
      · rw [decide_eq_false hq] at heq
        have HQ := Lib.hid hq
        clear hq
        go_wp2_with fail
        go_roundw
        case rel => exact ⟨k + 1, by go_num, by omega, by rw [HAT.out, if_neg HQ.out], HW.out.alloc (by omega) _, by simp; omega⟩
        case measure => simp [intOf]; omega
    · have hke : k = d.size := by omega
      subst hke
      by_cases hq : tz = 122
      · have heq := HZZ.out
        rw [decide_eq_true hq] at heq
        have HQ := Lib.hid hq
        clear hq
        go_wp2_with fail
        go_ret
        exact ⟨retI (by rw [HWT.out, if_pos HQ.out]), HWW.out⟩
      · have heq := HZZ.out
        rw [decide_eq_false hq] at heq
        have HQ := Lib.hid hq
        clear hq
        go_wp2_with fail
        go_ret
        exact ⟨retI (by rw [HWT.out, if_neg HQ.out]), HWW.out⟩

/-! orders of targets -/
theorem byteN_extract {s : ByteArray} {k j : Nat} (hk : k ≤ s.size) (hj : j < k) : byteN (s.extract 0 k) j = byteN s j := by
  have h1 : j < (s.extract 0 k).data.size := by
    rw [ByteArray.data_extract, Array.size_extract]
    have : s.data.size = s.size := rfl
    omega
  have h2 : j < s.data.size := by have : s.data.size = s.size := rfl; omega
  rw [byteN, byteN, getElem!_pos _ j h1, getElem!_pos _ j h2]
  simp [ByteArray.data_extract]
theorem size_extract0 {s : ByteArray} {k : Nat} (hk : k ≤ s.size) : (s.extract 0 k).size = k := by
  rw [ByteArray.size_extract]
  omega
theorem findZ_own (d : Array CaseD) (c : Int) : (c ∈ lettersTo d 8 ∧ 0 ≤ findZ (strOf (lettersTo d 8)) c) ∨ (c ∉ lettersTo d 8 ∧ findZ (strOf (lettersTo d 8)) c < 0) := by
  have hr : ∀ x ∈ lettersTo d 8, 0 ≤ x ∧ x ≤ 255 := fun x hx => by have := lettersTo_range d x hx; omega
  by_cases h : c ∈ lettersTo d 8
  · exact .inl ⟨h, findZ_in hr h⟩
  · exact .inr ⟨h, findZ_out hr h⟩
theorem findZ_before {s : ByteArray} {k : Nat} (hk : k ≤ s.size) (c : Int) : ((∃ j, j < k ∧ (byteN s j : Int) = c) ∧ 0 ≤ findZ (s.extract 0 k) c) ∨ ((∀ j, j < k → (byteN s j : Int) ≠ c) ∧ findZ (s.extract 0 k) c < 0) := by
  rcases findZ_cases (s.extract 0 k) c with ⟨j, h1, h2, h3⟩ | ⟨h1, h2⟩
  · rw [size_extract0 hk] at h1
    rw [byteN_extract hk h1] at h3
    exact .inl ⟨⟨j, h1, h3⟩, by omega⟩
  · refine .inr ⟨fun j hj => ?_, by omega⟩
    have := h2 j (by rw [size_extract0 hk]; exact hj)
    rwa [byteN_extract hk hj] at this
theorem ordWB_no {d : Array CaseD} {s : ByteArray} (h : ¬ OrdW d s) : ordWB d s = false := by
  cases hb : ordWB d s with
  | false => rfl
  | true => exact absurd ((ordWB_iff d s).1 hb) h

set_option maxRecDepth 100000 in
set_option maxHeartbeats 2000000 in
theorem l7Order_any (b off cap : Nat) (d : Array CaseD) (rest : Int) (s : ByteArray) (w : World) (hR : RowC w b off d) (hok : SwOK d rest) (hs : s.size ≤ 1048576) :
    Calls Tryd.prog 54 #[.agg #[.slice (some ⟨b, off, none⟩) d.size cap, .int .i64 rest], .string s] w fun x w' => x = .returned (.bool (ordWB d s)) ∧ RowKit.Below w.heap.size w w' := by
  have HOWN := Lib.hid (fun W (hW : RowKit.Below w.heap.size w W) => l7Own_any b off cap d rest W (hR.below hW) hok)
  have hsi : (s.size : Int) ≤ 1048576 := by omega
  have hln := lettersTo_length d 8
  have hso := strOf_size (lettersTo d 8)
  have HFO := Lib.hid (findZ_own d)
  obtain ⟨o, ho⟩ : ∃ o, o = strOf (lettersTo d 8) := ⟨_, rfl⟩
  rw [← ho] at hso HOWN HFO
  have hos : o.size ≤ 8 := by omega
  have hosi : (o.size : Int) ≤ 8 := by omega
  have HFI := Lib.hid (fun c W => (l13Find_any o c (by omega) W).mono fun _ _ h => (⟨h.1, h.2.symm⟩ : _ ∧ _ = W))
  have HSO := Lib.hid hso
  obtain ⟨wa, hwa⟩ : ∃ wa, wa = w.alloc (.cells #[.slice (some ⟨b, off, none⟩) d.size cap, .int .i64 rest] 32) := ⟨_, rfl⟩
  have c0 : wa.cell? ⟨w.heap.size, 0, none⟩ = some (.slice (some ⟨b, off, none⟩) d.size cap) := by rw [hwa]; simp
  have c1 : wa.cell? ⟨w.heap.size, 1, none⟩ = some (.int .i64 rest) := by rw [hwa]; simp
  have hba : RowKit.Below w.heap.size w wa := by rw [hwa]; exact (Below.refl _ _).alloc (Nat.le_refl _) _
  have HA := Lib.hid hba
  have HWA := Lib.hid hwa
  clear hba hwa hR hok ho hso hln
  go_enter Tryd.func54, Tryd.ntmps54
  go_wp2_with fail
  rw [← HWA.out]
  go_wp2_with fail
  refine (HOWN.out _ HA.out).mono ?_
  rintro x w1 ⟨rfl, hb⟩
  have HB := Lib.hid (HA.out.trans (hb.mono HA.out.size))
  clear hb c0 c1
  go_wp2_with fail
  go_loopw [11] (fun i wr => ∃ k : Nat, i = .int .i64 k ∧ k ≤ s.size ∧ Hid (∀ j, j < k → ((byteN s j : Int) ∈ lettersTo d 8 ∧ ∀ i, i < j → byteN s i ≠ byteN s j)) ∧ Hid (RowKit.Below w.heap.size w wr)) (fun i _ => s.size - (intOf i).toNat)
  case atStart => exact ⟨0, rfl, Nat.zero_le _, fun j hj => absurd hj (Nat.not_lt_zero _), HB.out⟩
  case round =>
    obtain ⟨k, rfl, hk, HE, HW⟩ := hrel
    by_cases hlt : k < s.size
    · have hki : (k : Int) < (s.size : Int) := by omega
      have HBG := Lib.hid (byteN_get hlt)
      have HBK := Lib.hid (findZ_before hk (s[k].toNat : Int))
      have HFX := Lib.hid (HFO.out (s[k].toNat : Int))
      have HC1 := Lib.hid (HFI.out (s[k].toNat : Int))
      have HC2 := Lib.hid (fun W => (l13Find_any (s.extract 0 k) (s[k].toNat : Int) (by rw [size_extract0 hk]; omega) W).mono fun _ _ h => (⟨h.1, h.2.symm⟩ : _ ∧ _ = W))
      obtain ⟨z1, hz1⟩ : ∃ z, z = findZ o (s[k].toNat : Int) := ⟨_, rfl⟩
      obtain ⟨z2, hz2⟩ : ∃ z, z = findZ (s.extract 0 k) (s[k].toNat : Int) := ⟨_, rfl⟩
      rw [← hz1] at HFX HC1
      rw [← hz2] at HBK HC2
      clear hz1 hz2
      rcases HFX.out with ⟨hin, hp⟩ | ⟨hin, hp⟩
      · have hpn : decide (z1 < 0) = false := by simp; omega
        have hpn2 : ¬ z1 < 0 := by omega
        rcases HBK.out with ⟨hex, hq⟩ | ⟨hall, hq⟩
        · have HEX := Lib.hid hex
          clear hin hex hp
          go_wp2_with fail
          go_quiet (first
            | (go_at_call 66; with_reducible exact Calls.quiet_of_same (HC1.out _))
            | (go_at_call 66; with_reducible exact Calls.quiet_of_same (HC2.out _)))
          go_wp2_with fail
          go_ret
          refine ⟨retB (ordWB_no fun h => ?_).symm, below_drewN HW.out _⟩
          obtain ⟨j, hj, e⟩ := HEX.out
          have := (h.2 k hlt).2 j hj
          rw [HBG.out] at e
          omega
        · have hqn : ¬ 0 ≤ z2 := by omega
          have HALL := Lib.hid hall
          have HIN := Lib.hid hin
          clear hin hall hp
          go_wp2_with fail
          go_quiet (first
            | (go_at_call 66; with_reducible exact Calls.quiet_of_same (HC1.out _))
            | (go_at_call 66; with_reducible exact Calls.quiet_of_same (HC2.out _)))
          go_wp2_with fail
          go_roundw
          case rel =>
            refine ⟨k + 1, by go_num, by omega, (show Hid _ from fun j hj => ?_), below_drewN HW.out _⟩
            by_cases e : j = k
            · subst e
              rw [← HBG.out]
              refine ⟨HIN.out, fun i hi => ?_⟩
              have := HALL.out i hi
              rw [HBG.out] at this
              omega
            · exact HE.out j (by omega)
          case measure => simp [intOf]; omega
      · have HIN := Lib.hid hin
        clear hin
        go_wp2_with fail
        go_quiet (first
          | (go_at_call 66; with_reducible exact Calls.quiet_of_same (HC1.out _)))
        go_wp2_with fail
        go_ret
        refine ⟨retB (ordWB_no fun h => ?_).symm, below_drewN HW.out _⟩
        have := (h.2 k hlt).1
        rw [← HBG.out] at this
        exact HIN.out this
    · have hke : k = s.size := by omega
      subst hke
      by_cases hq : s.size = o.size
      · have hq2 : (s.size : Int) = (o.size : Int) := by omega
        go_wp2_with fail
        go_ret
        refine ⟨retB ?_, HW.out⟩
        rw [(ordWB_iff d s).2 ⟨by rw [← HSO.out]; exact hq, HE.out⟩]
        all_goals simp [hq2]
      · have hq2 : ¬ (s.size : Int) = (o.size : Int) := by omega
        go_wp2_with fail
        go_ret
        refine ⟨retB ?_, HW.out⟩
        rw [ordWB_no (fun h => hq (by rw [HSO.out]; exact h.1))]
        all_goals simp [hq2]
end Go.Proofs.YtbhamkmiagdimaaDoor
