
/- Words: what l13Find, l7Own, l7Target, l7Mask, l7Weight of the model return. -/
import Derived.Test.YtbhamkmiagdimaaDoorKsWordO
namespace Go.Proofs.YtbhamkmiagdimaaDoor
open Go.RowKit Go.Shelf Go.Lib Go.Sort

/-! the first byte that is one -/
def findZ (s : ByteArray) (c : Int) : Int := match (List.range s.size).find? (fun j => (byteN s j : Int) == c) with | some k => (k : Int) | none => -1
theorem findZ_miss {s : ByteArray} {c : Int} (h : ∀ j, j < s.size → (byteN s j : Int) ≠ c) : findZ s c = -1 := by
  have e : (List.range s.size).find? (fun j => (byteN s j : Int) == c) = none := by
    rw [List.find?_eq_none]
    intro j hj
    have := h j (List.mem_range.1 hj)
    simpa using this
  rw [findZ, e]
theorem findZ_hit {s : ByteArray} {c : Int} {k : Nat} (hk : k < s.size) (h : (byteN s k : Int) = c) (hn : ∀ j, j < k → (byteN s j : Int) ≠ c) : findZ s c = k := by
  have e : (List.range s.size).find? (fun j => (byteN s j : Int) == c) = some k := by
    rw [List.find?_range_eq_some]
    refine ⟨by simpa using h, List.mem_range.2 hk, fun j hj => ?_⟩
    have := hn j hj
    simpa using this
  rw [findZ, e]
theorem findZ_cases (s : ByteArray) (c : Int) : (∃ k : Nat, k < s.size ∧ findZ s c = k ∧ (byteN s k : Int) = c) ∨ (findZ s c = -1 ∧ ∀ j, j < s.size → (byteN s j : Int) ≠ c) := by
  cases e : (List.range s.size).find? (fun j => (byteN s j : Int) == c) with
  | some k =>
    left
    refine ⟨k, List.mem_range.1 (List.mem_of_find?_eq_some e), by rw [findZ, e], ?_⟩
    have := List.find?_some e
    simpa using this
  | none =>
    right
    refine ⟨by rw [findZ, e], fun j hj => ?_⟩
    have := (List.find?_eq_none.1 e) j (List.mem_range.2 hj)
    simpa using this
theorem byteN_strOf (l : List Int) (hl : ∀ x ∈ l, 0 ≤ x ∧ x ≤ 255) {j : Nat} (hj : j < l.length) : (byteN (strOf l) j : Int) = l[j] := by
  have hs : j < (strOf l).data.size := by have := strOf_size l; have e : (strOf l).data.size = (strOf l).size := rfl; omega
  have e : (strOf l).data[j]! = UInt8.ofNat l[j].toNat := by
    rw [getElem!_pos _ j hs]
    have h2 := strOf_data l
    have h3 : (strOf l).data[j] = (strOf l).data.toList[j]'(by simpa using hs) := by simp
    rw [h3]
    simp [h2]
  rw [byteN, e]
  have := hl l[j] (List.getElem_mem hj)
  rw [UInt8.toNat_ofNat']
  have a1 : l[j].toNat % 2 ^ 8 = l[j].toNat := Nat.mod_eq_of_lt (by omega)
  omega
theorem findZ_in {l : List Int} (hl : ∀ x ∈ l, 0 ≤ x ∧ x ≤ 255) {c : Int} (h : c ∈ l) : 0 ≤ findZ (strOf l) c := by
  rcases findZ_cases (strOf l) c with ⟨k, _, e, _⟩ | ⟨_, h2⟩
  · omega
  · obtain ⟨j, hj, e⟩ := List.mem_iff_getElem.1 h
    exact absurd (by rw [byteN_strOf l hl hj, e]) (h2 j (by rw [strOf_size]; exact hj))
theorem findZ_out {l : List Int} (hl : ∀ x ∈ l, 0 ≤ x ∧ x ≤ 255) {c : Int} (h : c ∉ l) : findZ (strOf l) c < 0 := by
  rcases findZ_cases (strOf l) c with ⟨k, h1, _, h3⟩ | ⟨e, _⟩
  · rw [strOf_size] at h1
    rw [byteN_strOf l hl h1] at h3
    exact absurd (h3 ▸ List.getElem_mem h1) h
  · omega

set_option maxRecDepth 100000 in
set_option maxHeartbeats 1000000 in
theorem l13Find_any (s : ByteArray) (c : Int) (hs : s.size ≤ 1048576) (w : World) :
    Calls Tryd.prog 66 #[.string s, .int .u8 c] w fun x w' => x = .returned (.int .i64 (findZ s c)) ∧ w = w' := by
  have hsi : (s.size : Int) ≤ 1048576 := by omega
  go_enter Tryd.func66, Tryd.ntmps66
  go_wp2_with fail
  go_loopw [5] (fun i wr => ∃ k : Nat, i = .int .i64 k ∧ k ≤ s.size ∧ Hid (∀ j, j < k → (byteN s j : Int) ≠ c) ∧ wr = w) (fun i _ => s.size - (intOf i).toNat)
  case atStart => exact ⟨0, rfl, Nat.zero_le _, fun j hj => absurd hj (Nat.not_lt_zero _), rfl⟩
  case round =>
    obtain ⟨k, rfl, hk, HE, rfl⟩ := hrel
    by_cases hlt : k < s.size
    · have HB := Lib.hid (byteN_get hlt)
      have hki : (k : Int) < (s.size : Int) := by omega
      by_cases hq : (s[k].toNat : Int) = c
      · have HQ := Lib.hid hq
        have hq2 : ((s[k].toNat : Int) == c) = true := by simpa using hq
        clear hq
        go_wp2_with fail
        go_ret
        exact ⟨retI (findZ_hit hlt (by rw [← HB.out]; exact HQ.out) HE.out).symm, rfl⟩
      · have HQ := Lib.hid hq
        have hq2 : ((s[k].toNat : Int) == c) = false := by simpa using hq
        clear hq
        go_wp2_with fail
        go_roundw
        case rel =>
          refine ⟨k + 1, by go_num, by omega, (show Hid _ from fun j hj => ?_), trivial⟩
          by_cases e : j = k
          · subst e; rw [← HB.out]; exact HQ.out
          · exact HE.out j (by omega)
        case measure => simp [intOf]; omega
    · go_wp2_with fail
      go_ret
      exact ⟨retI (findZ_miss fun j hj => HE.out j (by omega)).symm, rfl⟩

/-! the letters of a switch, collected -/
def ownV (d : Array CaseD) (i k : Nat) : ByteArray := strOf (lettersTo d i ++ (if presTo d (97 + (i : Int)) k = true then [97 + (i : Int)] else []))
theorem ownV_zero (d : Array CaseD) (i : Nat) : ownV d i 0 = strOf (lettersTo d i) := by simp [ownV, presTo]
theorem ownV_full (d : Array CaseD) (i : Nat) : ownV d i d.size = strOf (lettersTo d (i + 1)) := by rw [ownV, lettersTo_succ]
theorem ownV_ne {d : Array CaseD} {i k : Nat} (h : tgJ d k ≠ 97 + (i : Int)) : ownV d i (k + 1) = ownV d i k := by
  have e : (tgJ d k == 97 + (i : Int)) = false := by simpa using h
  rw [ownV, ownV, presTo_succ, e, Bool.or_false]
theorem ownV_old {d : Array CaseD} {i k : Nat} (h : presTo d (97 + (i : Int)) k = true) : ownV d i (k + 1) = ownV d i k := by
  rw [ownV, ownV, presTo_succ, h, Bool.true_or]
theorem ownV_new {d : Array CaseD} {i k : Nat} (h : presTo d (97 + (i : Int)) k = false) (e : tgJ d k = 97 + (i : Int)) (b : UInt8) (hb : (b.toNat : Int) = 97 + (i : Int)) : ownV d i (k + 1) = ownV d i k ++ ⟨#[b]⟩ := by
  have e2 : (tgJ d k == 97 + (i : Int)) = true := by simpa using e
  rw [ownV, ownV, presTo_succ, e2, Bool.or_true, if_pos rfl, if_neg (by rw [h]; exact Bool.false_ne_true), List.append_nil, strOf_snoc, ← hb]
  simp
theorem letters_range {d : Array CaseD} {i k : Nat} (hi : i < 8) : ∀ x ∈ lettersTo d i ++ (if presTo d (97 + (i : Int)) k = true then [97 + (i : Int)] else []), 0 ≤ x ∧ x ≤ 255 := by
  intro x hx
  rcases List.mem_append.1 hx with h | h
  · obtain ⟨q, h1, h2, _⟩ := (lettersTo_mem d i x).1 h
    omega
  · split at h
    · rw [List.mem_singleton] at h; omega
    · cases h
theorem ownV_find {d : Array CaseD} {i k : Nat} (hi : i < 8) : decide (findZ (ownV d i k) (97 + (i : Int)) < 0) = !presTo d (97 + (i : Int)) k := by
  cases h : presTo d (97 + (i : Int)) k with
  | true =>
    have := findZ_in (letters_range (d := d) (k := k) hi) (c := 97 + (i : Int)) (List.mem_append_right _ (by rw [if_pos h]; exact List.mem_singleton.2 rfl))
    have h2 : 0 ≤ findZ (ownV d i k) (97 + (i : Int)) := this
    simp only [Bool.not_true, decide_eq_false_iff_not]
    omega
  | false =>
    have := findZ_out (letters_range (d := d) (k := k) hi) (c := 97 + (i : Int)) (fun hx => by
      rw [if_neg (by rw [h]; exact Bool.false_ne_true), List.append_nil] at hx
      obtain ⟨q, h1, h2, _⟩ := (lettersTo_mem d i _).1 hx
      omega)
    have h2 : findZ (ownV d i k) (97 + (i : Int)) < 0 := this
    simp only [Bool.not_false, decide_eq_true_eq]
    exact h2
theorem ownV_size (d : Array CaseD) (i k : Nat) : (ownV d i k).size ≤ i + 1 := by
  rw [ownV, strOf_size, List.length_append]
  have := lettersTo_length d i
  split <;> simp <;> omega
theorem case_byte {d : Array CaseD} {rest : Int} (h : SwOK d rest) {k : Nat} (hk : k < d.size) : ∃ b : UInt8, d[k]!.target = ⟨#[b]⟩ ∧ tgJ d k = (b.toNat : Int) := by
  have hc := h.case k hk
  simp only [caseB, oneB, Bool.and_eq_true, decide_eq_true_eq] at hc
  obtain ⟨b, hb⟩ := one_byte hc.1.1.1.1.1
  exact ⟨b, hb, by rw [tgJ, hb]; rfl⟩

set_option maxRecDepth 100000 in
set_option maxHeartbeats 2000000 in
theorem l7Own_any (b off cap : Nat) (d : Array CaseD) (rest : Int) (w : World) (hR : RowC w b off d) (hok : SwOK d rest) :
    Calls Tryd.prog 60 #[.agg #[.slice (some ⟨b, off, none⟩) d.size cap, .int .i64 rest]] w fun x w' => x = .returned (.string (strOf (lettersTo d 8))) ∧ RowKit.Below w.heap.size w w' := by
  have HR := Lib.hid hR
  have HO := Lib.hid hok
  have h8 : (d.size : Int) ≤ 8 := by have := hok.size; omega
  have h8n : d.size ≤ 8 := hok.size
  obtain ⟨wa, hwa⟩ : ∃ wa, wa = w.alloc (.cells #[.slice (some ⟨b, off, none⟩) d.size cap, .int .i64 rest] 32) := ⟨_, rfl⟩
  have c0 : wa.cell? ⟨w.heap.size, 0, none⟩ = some (.slice (some ⟨b, off, none⟩) d.size cap) := by rw [hwa]; simp
  have hz : w.heap.size < wa.heap.size := by rw [hwa]; simp
  have hba : RowKit.Below w.heap.size w wa := by rw [hwa]; exact (Below.refl _ _).alloc (Nat.le_refl _) _
  have HA := Lib.hid hba
  have C0 := Lib.hid c0
  have HWA := Lib.hid hwa
  clear hba c0 hwa hR hok
  go_enter Tryd.func60, Tryd.ntmps60
  go_wp2_with fail
  rw [← HWA.out]
  have HB0 := Lib.hid (Below.refl wa.heap.size wa)
  go_loopw [3, 4] (fun v c wr => ∃ i : Nat, c = .int .u8 (97 + (i : Int)) ∧ i ≤ 8 ∧ v = .string (strOf (lettersTo d i)) ∧ Hid (RowKit.Below wa.heap.size wa wr) ∧ wa.heap.size ≤ wr.heap.size) (fun _ c _ => 105 - (intOf c).toNat)
  case atStart => exact ⟨0, by go_num, by omega, rfl, HB0.out, Nat.le_refl _⟩
  case round =>
    obtain ⟨i, rfl, hi, rfl, HW, hw2⟩ := hrel
    have HWW := Lib.hid (HA.out.trans (HW.out.mono (by omega)))
    have b0 := (HW.out.cell (p := ⟨w.heap.size, 0, none⟩) hz).trans C0.out
    rw [← ownV_zero]
    by_cases hlt : i < 8
    · have HFULL := Lib.hid (ownV_full d i)
      have HNE := Lib.hid (fun k => ownV_ne (d := d) (i := i) (k := k))
      have HOLD := Lib.hid (fun k => ownV_old (d := d) (i := i) (k := k))
      have HNEW := Lib.hid (fun k => ownV_new (d := d) (i := i) (k := k))
      have HFIND := Lib.hid (fun k => ownV_find (d := d) (i := i) (k := k) hlt)
      obtain ⟨c, hc⟩ : ∃ c : Int, c = 97 + (i : Int) := ⟨_, rfl⟩
      rw [← hc]
      rw [← hc] at HNE HOLD HNEW HFIND
      have hc1 : 97 ≤ c := by omega
      have hc2 : c ≤ 104 := by omega
      have HC := Lib.hid hc
      clear hc
      have hw8 : IntKind.u8.wrap (c + 1) = c + 1 := by rw [IntKind.wrap]; simp [IntKind.signed, IntKind.bits]; omega
      have HI9 := Lib.hid hlt
      go_wp2_with fail
      go_loopw [3, 14] (fun v i5 w5 => ∃ k : Nat, i5 = .int .i64 k ∧ k ≤ d.size ∧ v = .string (ownV d i k) ∧ Hid (RowKit.Below wa.heap.size wa w5) ∧ wa.heap.size ≤ w5.heap.size) (fun _ i5 _ => d.size - (intOf i5).toNat)
      case atStart => exact ⟨0, rfl, Nat.zero_le _, rfl, HW.out, hw2⟩
      case round =>
        obtain ⟨k, rfl, hk, rfl, HW5, hw5⟩ := hrel
        have HWW5 := Lib.hid (HA.out.trans (HW5.out.mono (by omega)))
        by_cases hlt2 : k < d.size
        · have hx := HR.out.below HWW5.out
          have x0 := hx.low k hlt2
          have x1 := hx.high k hlt2
          have x2 := hx.target k hlt2
          have x3 := hx.weight k hlt2
          obtain ⟨bt, hbt, hbj⟩ := case_byte HO.out hlt2
          have hsz := ownV_size d i k
          clear hx
          obtain ⟨x, hxe⟩ : ∃ x, x = d[k]! := ⟨_, rfl⟩
          rw [← hxe] at x0 x1 x2 x3 hbt
          rw [hbt] at x2
          have HNK := Lib.hid (HNE.out k)
          have HOK := Lib.hid (HOLD.out k)
          have HEK := Lib.hid (fun h e => HNEW.out k h e bt)
          have HFK := Lib.hid (HFIND.out k)
          obtain ⟨t, ht⟩ : ∃ t, t = ownV d i k := ⟨_, rfl⟩
          have HT := Lib.hid ht
          rw [← ht] at hsz HFK ⊢
          have hsz2 : t.size ≤ 1048576 := by omega
          have hfind := fun W => l13Find_any t c hsz2 W
          have HBJ := Lib.hid hbj
          clear ht hbt hbj hxe
          by_cases hq : (bt.toNat : Int) = c
          · have hq2 : ((bt.toNat : Int) == c) = true := by simpa using hq
            have HQ := Lib.hid hq
            clear hq
            obtain ⟨z, hz2⟩ : ∃ z, z = findZ t c := ⟨_, rfl⟩
            rw [← hz2] at HFK hfind
            have HF := Lib.hid hfind
            clear hz2 hfind
            cases hp : presTo d c k
            · have hzn : z < 0 := by have := HFK.out; rw [hp] at this; simpa using this
              have HP := Lib.hid hp
              clear hp
              go_wp2_with (go_at_call 66; refine (HF.out _).mono ?_; rintro y w7 ⟨rfl, rfl⟩)
              go_roundw
              case rel =>
                refine ⟨k + 1, by go_num, by omega, ?_, HW5.out.alloc (by omega) _, by simp; omega⟩
                rw [HEK.out HP.out (by rw [HBJ.out]; exact HQ.out) HQ.out, HT.out]
              case measure => simp [intOf]; omega
            · have hzn : ¬ z < 0 := by have := HFK.out; rw [hp] at this; simpa using this
              have HP := Lib.hid hp
              clear hp
              go_wp2_with (go_at_call 66; refine (HF.out _).mono ?_; rintro y w7 ⟨rfl, rfl⟩)
              go_roundw
              case rel =>
                refine ⟨k + 1, by go_num, by omega, ?_, HW5.out.alloc (by omega) _, by simp; omega⟩
                rw [HOK.out HP.out, HT.out]
              case measure => simp [intOf]; omega
          · have hq2 : ((bt.toNat : Int) == c) = false := by simpa using hq
            have HQ := Lib.hid hq
            clear hq hfind
            go_wp2_with fail
            go_roundw
            case rel =>
              refine ⟨k + 1, by go_num, by omega, ?_, HW5.out.alloc (by omega) _, by simp; omega⟩
              rw [HNK.out (by rw [HBJ.out]; exact HQ.out), HT.out]
            case measure => simp [intOf]; omega
        · have hke : k = d.size := by omega
          subst hke
          go_wp2_with fail
          go_roundw
          case rel => exact ⟨i + 1, by rw [HC.out]; go_num, by have := HI9.out; omega, by rw [HFULL.out], HW5.out, hw5⟩
          case measure => simp [intOf]; omega
    · have hie : i = 8 := by omega
      subst hie
      go_wp2_with fail
      go_ret
      exact ⟨retS (ownV_zero d 8), HWW.out⟩
end Go.Proofs.YtbhamkmiagdimaaDoor
