
/- Words: what readLetter, wordOf, weightOf, has of the program return. · Words: caseTargets, isWordOrder of the program. -/
import Derived.Test.YtbhamkmiagdimaaGreatDoorKsWordA
import Derived.Test.YtbhamkmiagdimaaGreatDoorKsRowK
import Derived.Test.YtbhamkmiagdimaaGreatDoorKsTgtA
import Derived.Test.YtbhamkmiagdimaaGreatDoorKsLay9
import Derived.Laws.IdiomStrings
namespace Go.Proofs.YtbhamkmiagdimaaGreatDoor
open Go.RowKit Go.Shelf Go.Lib Go.Sort

def tgWC (c : UInt8) : Bool := tgtB (c.toNat : Int) || decide ((c.toNat : Int) = 122)
theorem validW_any (c : UInt8) (w : World) : Calls Tryz.prog 88 #[.int .u8 (c.toNat : Int)] w fun e w' => e = .returned (.bool (tgWC c)) ∧ w = w' := by
  have hcall := fun W => ofCase_any (c.toNat : Int) W
  have HD := Lib.hid (show tgWC c = (tgtB (c.toNat : Int) || decide ((c.toNat : Int) = 122)) from rfl)
  obtain ⟨n, hn⟩ : ∃ n : Int, n = (c.toNat : Int) := ⟨_, rfl⟩
  rw [← hn] at hcall HD ⊢
  clear hn
  cases h1 : tgtB n
  · simp only [h1] at hcall
    have HC := Lib.hid hcall
    have H1 := Lib.hid h1
    clear hcall h1
    by_cases h2 : n = 122
    · subst h2
      go_enter Tryz.func88, Tryz.ntmps88
      go_wp2_with (go_at_call 97; refine (HC.out _).mono ?_; rintro y w2 ⟨rfl, rfl⟩)
      go_ret
      exact ⟨retB (by rw [HD.out]; rfl), rfl⟩
    · have h3 : (n == 122) = false := by simpa using h2
      go_enter Tryz.func88, Tryz.ntmps88
      go_wp2_with (go_at_call 97; refine (HC.out _).mono ?_; rintro y w2 ⟨rfl, rfl⟩)
      go_ret
      exact ⟨retB (by rw [HD.out, H1.out]; simp [h2]), rfl⟩
  · simp only [h1] at hcall
    have HC := Lib.hid hcall
    have H1 := Lib.hid h1
    clear hcall h1
    go_enter Tryz.func88, Tryz.ntmps88
    go_wp2_with (go_at_call 97; refine (HC.out _).mono ?_; rintro y w2 ⟨rfl, rfl⟩)
    go_ret
    exact ⟨retB (by rw [HD.out, H1.out]; rfl), rfl⟩

set_option maxRecDepth 100000 in
set_option maxHeartbeats 400000 in
theorem textW_any (c : UInt8) (w : World) : Calls Tryz.prog 41 #[.int .u8 (c.toNat : Int)] w fun x w' => x = .returned (.string ⟨#[c]⟩) ∧ Below w.heap.size w w' := by
  have hconv : Sem.run Tryz.prog (convert 22 9 (.slice (some ⟨w.heap.size, 0, none⟩) 1 1)) (w.alloc (.cells #[.int .u8 (c.toNat : Int)] 5)) = .ok (.string ⟨#[c]⟩) (w.alloc (.cells #[.int .u8 (c.toNat : Int)] 5)) := by
    rw [run_convert_bytes_string _ _ _ _ _ _ _ Tryz.underlying22 Tryz.underlying5 Tryz.underlying9, run_bytesToString _ _ _ _ [(c.toNat : Int)] (by go_simp)]
    have : UInt8.ofNat ((c.toNat : Int)).toNat = c := by simp
    simp only [List.foldl_cons, List.foldl_nil, this]
    rfl
  have hb : (c.toNat : Int) ≤ 255 := by have := c.toNat_lt; omega
  go_enter Tryz.func41, Tryz.ntmps41
  go_wp2
  go_ret
  exact ⟨rfl, (Below.refl _ _).alloc (Nat.le_refl _) _⟩

/-- The target that a text is; 0 if it is none. -/
def letZ (s : ByteArray) : Int := if letN s = true then tg0 s else 0
theorem retZB {a c : Int} {b e : Bool} (h : a = c) (h2 : b = e) : Ending.returned (.tuple #[.int .u8 a, .bool b]) = .returned (.tuple #[.int .u8 c, .bool e]) := by rw [h, h2]

set_option maxHeartbeats 400000 in
theorem readLetter_any (s : ByteArray) (w : World) :
    Calls Tryz.prog 49 #[.string s] w fun x w' => x = .returned (.tuple #[.int .u8 (letZ s), .bool (letN s)]) ∧ w = w' := by
  by_cases h1 : s.size = 1
  · have h0 : 0 < s.size := by omega
    have hi : (s.size : Int) = 1 := by omega
    have hv := fun W => validW_any s[0] W
    have ht : tg0 s = (s[0].toNat : Int) := by rw [tg0, dif_pos h0]
    have hl : letN s = tgWC s[0] := by rw [letN, tgWC, ht, decide_eq_true h1, Bool.true_and]; congr 1
    have HL := Lib.hid hl
    have HT := Lib.hid ht
    have hz : ¬ ((s.size : Int) = 0) := by omega
    cases hq : tgWC s[0]
    all_goals
      simp only [hq] at hv
      have HV := Lib.hid hv
      have HQ := Lib.hid hq
      clear hv hq hl ht h1
      go_enter Tryz.func49, Tryz.ntmps49
      go_wp2_with (go_at_call 88; refine (HV.out _).mono ?_; rintro y w2 ⟨rfl, rfl⟩)
      go_ret2
      exact ⟨retZB (by simp [letZ, HL.out, HQ.out, HT.out]) (by simp [HL.out, HQ.out]), rfl⟩
  · have hi : ¬ ((s.size : Int) = 1) := by omega
    have HL := Lib.hid (show letN s = false by simp [letN, h1])
    go_enter Tryz.func49, Tryz.ntmps49
    go_wp2
    go_ret2
    exact ⟨retZB (by simp [letZ, HL.out]) (by simp [HL.out]), rfl⟩

theorem pow_mod {k : Nat} (h : k < 32) : (2 : Int) ^ k % 4294967296 = ((2 ^ k : Nat) : Int) := by
  have h1 := pow_lt h
  have h2 : (2 : Int) ^ k = ((2 ^ k : Nat) : Int) := by simp
  rw [h2]
  generalize 2 ^ k = p at h1
  omega

set_option maxRecDepth 100000 in
set_option maxHeartbeats 2000000 in
theorem wordOf_any (b off cap : Nat) (d : Array CaseD) (rest t : Int) (w : World) (hR : RowC w b off d) (hok : SwOK d rest) :
    Calls Tryz.prog 39 #[.agg #[.slice (some ⟨b, off, none⟩) d.size cap, .int .i64 rest], .int .u8 t] w fun x w' => x = .returned (.int .u32 (wordN d t 32)) ∧ RowKit.Below w.heap.size w w' := by
  have HRW := Lib.hid (fun W (hW : RowKit.Below w.heap.size w W) => implRow_any b off cap d rest W (hR.below hW) hok)
  obtain ⟨wa, hwa⟩ : ∃ wa, wa = w.alloc (.cells #[.slice (some ⟨b, off, none⟩) d.size cap, .int .i64 rest] 25) := ⟨_, rfl⟩
  have c0 : wa.cell? ⟨w.heap.size, 0, none⟩ = some (.slice (some ⟨b, off, none⟩) d.size cap) := by rw [hwa]; simp
  have c1 : wa.cell? ⟨w.heap.size, 1, none⟩ = some (.int .i64 rest) := by rw [hwa]; simp
  have hba : RowKit.Below w.heap.size w wa := by rw [hwa]; exact (Below.refl _ _).alloc (Nat.le_refl _) _
  have HA := Lib.hid hba
  have HWA := Lib.hid hwa
  clear hba hwa hR hok
  go_enter Tryz.func39, Tryz.ntmps39
  go_wp2_with fail
  rw [← HWA.out]
  go_wp2_with fail
  refine (HRW.out _ HA.out).mono ?_
  rintro x w1 ⟨rfl, hb⟩
  have HB := Lib.hid (HA.out.trans (hb.mono HA.out.size))
  clear hb c0 c1
  go_wp2_with fail
  go_loopw [5, 10] (fun v i wr => ∃ k : Nat, i = .int .i64 k ∧ k ≤ 32 ∧ v = .int .u32 (wordN d t k) ∧ wr = w1) (fun _ i _ => 32 - (intOf i).toNat)
  case atStart => exact ⟨0, rfl, by omega, rfl, rfl⟩
  case round =>
    obtain ⟨k, rfl, hk, rfl, rfl⟩ := hrel
    by_cases hlt : k < 32
    · have hki : (k : Int) < 32 := by omega
      have hg := fun W => index_row (goB d) hlt W
      have HHIT := Lib.hid (wordN_hit (d := d) (t := t) (n := k))
      have HMISS := Lib.hid (wordN_miss (d := d) (t := t) (n := k))
      have hm := wordN_lt d t (n := k) (by omega)
      have hor : bits .or .u32 (wordN d t k : Int) ((2 ^ k : Nat) : Int) = ((wordN d t k ||| 2 ^ k : Nat) : Int) := or_u32 hm (pow_lt hlt)
      obtain ⟨m, hme⟩ : ∃ m, m = wordN d t k := ⟨_, rfl⟩
      rw [← hme] at HHIT HMISS hor hm ⊢
      clear hme
      have HOR := Lib.hid hor
      clear hor
      by_cases hq : goB d k = t
      · have heq : (goB d k == t) = true := by simpa using hq
        have HQ := Lib.hid hq
        clear hq
        go_wp2_with fail
        go_roundw
        case rel => exact ⟨k + 1, by go_num, by omega, by rw [HHIT.out HQ.out, pow_mod hlt, HOR.out], trivial⟩
        case measure => simp [intOf]; omega
      · have heq : (goB d k == t) = false := by simpa using hq
        have HQ := Lib.hid hq
        clear hq
        go_wp2_with fail
        go_roundw
        case rel => exact ⟨k + 1, by go_num, by omega, by rw [HMISS.out HQ.out], trivial⟩
        case measure => simp [intOf]; omega
    · have hke : k = 32 := by omega
      subst hke
      go_wp2_with fail
      go_ret
      exact ⟨rfl, HB.out⟩

theorem wgtE_atI (d : Array CaseD) (t : Int) (k : Nat) : wgtS d t (k + 1) = if tgJ d k = t then wgtS d t k + d[k]!.weight else wgtS d t k := by
  by_cases h : tgJ d k = t
  · rw [if_pos h, wgtS_hit h]
  · rw [if_neg h, wgtS_miss h]
theorem same_byte {s : ByteArray} (hs : s.size = 1) (c : UInt8) : (s.toList == [c]) = decide (tg0 s = (c.toNat : Int)) := by
  obtain ⟨a, rfl⟩ := one_byte hs
  rw [Bool.eq_iff_iff, beq_iff_eq, decide_eq_true_iff, ByteArray.toList_eq]
  have e1 : tg0 ⟨#[a]⟩ = (a.toNat : Int) := rfl
  rw [e1]
  constructor
  · intro h
    have : a = c := by simpa using h
    rw [this]
  · intro h
    have : a = c := UInt8.toNat_inj.1 (by omega)
    rw [this]
theorem caseI_size {c : CaseD} (h : caseB c = true) : c.target.size = 1 := by simp [caseB, oneB] at h; exact h.1.1.1.1.1

set_option maxRecDepth 100000 in
set_option maxHeartbeats 2000000 in
theorem weightOf_any (b off cap : Nat) (d : Array CaseD) (rest : Int) (c : UInt8) (w : World) (hR : RowC w b off d) (hok : SwOK d rest) :
    Calls Tryz.prog 57 #[.agg #[.slice (some ⟨b, off, none⟩) d.size cap, .int .i64 rest], .int .u8 (c.toNat : Int)] w fun x w' => x = .returned (.int .i64 (wgtT d rest (c.toNat : Int))) ∧ RowKit.Below w.heap.size w w' := by
  have HR := Lib.hid hR
  have HO := Lib.hid hok
  have h8 : (d.size : Int) ≤ 8 := by have := hok.size; omega
  have HLE := Lib.hid (wgtS_le hok (c.toNat : Int))
  have HSB := Lib.hid (fun k (hk : k < d.size) => same_byte (caseI_size (hok.case k hk)) c)
  have HTX := Lib.hid (fun W => textW_any c W)
  obtain ⟨wa, hwa⟩ : ∃ wa, wa = w.alloc (.cells #[.slice (some ⟨b, off, none⟩) d.size cap, .int .i64 rest] 25) := ⟨_, rfl⟩
  have c0 : wa.cell? ⟨w.heap.size, 0, none⟩ = some (.slice (some ⟨b, off, none⟩) d.size cap) := by rw [hwa]; simp
  have c1 : wa.cell? ⟨w.heap.size, 1, none⟩ = some (.int .i64 rest) := by rw [hwa]; simp
  have hz : w.heap.size < wa.heap.size := by rw [hwa]; simp
  have hba : RowKit.Below w.heap.size w wa := by rw [hwa]; exact (Below.refl _ _).alloc (Nat.le_refl _) _
  have HA := Lib.hid hba
  have HWA := Lib.hid hwa
  have HB0 := Lib.hid (Below.refl wa.heap.size wa)
  have HWT := Lib.hid (show wgtT d rest (c.toNat : Int) = if (c.toNat : Int) = 122 then rest else wgtS d (c.toNat : Int) d.size from rfl)
  clear hba hwa hR hok
  obtain ⟨t, ht⟩ : ∃ t : Int, t = (c.toNat : Int) := ⟨_, rfl⟩
  rw [← ht] at HLE HSB HTX HWT ⊢
  have HT := Lib.hid ht
  clear ht
  by_cases hq : t = 122
  · have hq2 : (t == 122) = true := by simpa using hq
    have HQ := Lib.hid hq
    clear hq
    go_enter Tryz.func57, Tryz.ntmps57
    go_wp2_with fail
    try rw [← HWA.out]
    go_ret
    exact ⟨retI (by rw [HWT.out, if_pos HQ.out]), HA.out⟩
  · have hq2 : (t == 122) = false := by simpa using hq
    have HQ := Lib.hid hq
    clear hq
    go_enter Tryz.func57, Tryz.ntmps57
    go_wp2_with fail
    rw [← HWA.out]
    go_loopw [5, 15] (fun v i wr => ∃ k : Nat, i = .int .i64 k ∧ k ≤ d.size ∧ v = .int .i64 (wgtS d t k) ∧ Hid (RowKit.Below wa.heap.size wa wr) ∧ wa.heap.size ≤ wr.heap.size) (fun _ i _ => d.size - (intOf i).toNat)
    case atStart => exact ⟨0, rfl, by omega, rfl, HB0.out, Nat.le_refl _⟩
    case round =>
      obtain ⟨k, rfl, hk, rfl, HW, hw2⟩ := hrel
      have HWW := Lib.hid (HA.out.trans (HW.out.mono (by omega)))
      by_cases hlt : k < d.size
      · have hx := HR.out.below HWW.out
        have x0 := hx.low k hlt
        have x1 := hx.high k hlt
        have x2 := hx.target k hlt
        have x3 := hx.weight k hlt
        have heq := HSB.out k hlt
        have htj : tg0 d[k]!.target = tgJ d k := rfl
        rw [htj] at heq
        have hl := HLE.out k (by omega)
        have hwt := caseB_weight (HO.out.case k hlt)
        have HAT := Lib.hid (wgtE_atI d t k)
        clear hx
        obtain ⟨x, hxe⟩ : ∃ x, x = d[k]! := ⟨_, rfl⟩
        rw [← hxe] at x0 x1 x2 x3 heq hwt HAT
        clear hxe htj
        obtain ⟨m, hme⟩ : ∃ m, m = wgtS d t k := ⟨_, rfl⟩
        rw [← hme] at hl HAT ⊢
        clear hme
        have hm1 : 0 ≤ m := hl.1
        have hm2 : m ≤ 800 := by omega
        have hv1 := hwt.1
        have hv2 := hwt.2
        clear hl hwt
        obtain ⟨w5, hw5⟩ : ∃ w5, w5 = wr.alloc (.cells #[.int .i64 x.low, .int .i64 x.high, .string x.target, .int .i64 x.weight] 66) := ⟨_, rfl⟩
        have z5 : wr.heap.size < w5.heap.size := by rw [hw5]; simp
        have d2 : w5.cell? ⟨wr.heap.size, 2, none⟩ = some (.string x.target) := by rw [hw5]; simp
        have d3 : w5.cell? ⟨wr.heap.size, 3, none⟩ = some (.int .i64 x.weight) := by rw [hw5]; simp
        have HW5 := Lib.hid (show RowKit.Below wa.heap.size wa w5 by rw [hw5]; exact HW.out.alloc hw2 _)
        have HE5 := Lib.hid hw5
        have D3 := Lib.hid d3
        have y2 := fun p : BW w5 => p.cell z5 d2
        have GW := Lib.hid fun p : BW w5 => HTX.out p.W
        clear hw5 d2 d3
        by_cases hq : tgJ d k = t
        · rw [decide_eq_true hq] at heq
          have HQ3 := Lib.hid hq
          clear hq
          go_wp2_with fail
          rw [← HE5.out]
          refine wp_region_bw (by kernel_rfl) (by kernel_rfl) ?_
          repeat (go_big_quiet_step (with_reducible refine bw_of (GW.out _)))
          refine wpQuiet_nil ?_
          rintro _ ⟨⟨W', hBW⟩, rfl⟩
          have HBW := Lib.hid (HW5.out.trans (hBW.mono (by omega)))
          have e3 := (hBW.cell z5).trans D3.out
          clear hBW
          go_wp2_with fail
          go_roundw
          case rel => exact ⟨k + 1, by go_num, by omega, by rw [HAT.out, if_pos HQ3.out], HBW.out, HBW.out.size⟩
          case measure => simp [intOf]; omega
        · rw [decide_eq_false hq] at heq
          have HQ3 := Lib.hid hq
          clear hq
          go_wp2_with fail
          rw [← HE5.out]
          refine wp_region_bw (by kernel_rfl) (by kernel_rfl) ?_
          repeat (go_big_quiet_step (with_reducible refine bw_of (GW.out _)))
          refine wpQuiet_nil ?_
          rintro _ ⟨⟨W', hBW⟩, rfl⟩
          have HBW := Lib.hid (HW5.out.trans (hBW.mono (by omega)))
          clear hBW
          go_wp2_with fail
          go_roundw
          case rel => exact ⟨k + 1, by go_num, by omega, by rw [HAT.out, if_neg HQ3.out], HBW.out, HBW.out.size⟩
          case measure => simp [intOf]; omega
      · have hke : k = d.size := by omega
        subst hke
        go_wp2_with fail
        go_ret
        exact ⟨retI (by rw [HWT.out, if_neg HQ.out]), HWW.out⟩
end Go.Proofs.YtbhamkmiagdimaaGreatDoor

namespace Go.Proofs.YtbhamkmiagdimaaGreatDoor
open Go.RowKit Go.Shelf Go.Lib Go.Sort

theorem hasSuffix_z (l : List UInt8) : Lib.hasSuffix (l ++ [122]) [122] = true := by
  rw [Lib.hasSuffix, List.isSuffixOf_iff_suffix]
  exact List.suffix_append _ _
theorem trim_letters (d : Array CaseD) (z : Bool) : (⟨(Lib.trimSuffix (strOf (lettersZ d z)).data.toList zS.data.toList).toArray⟩ : ByteArray) = strOf (lettersTo d 8) := by
  have hz : zS.data.toList = [122] := rfl
  apply ByteArray.ext
  apply Array.ext'
  rw [hz, strOf_data, strOf_data]
  show Lib.trimSuffix _ _ = _
  unfold lettersZ Lib.trimSuffix
  cases z with
  | true =>
    have e : (lettersTo d 8 ++ (if true = true then [122] else [])).map (fun n : Int => UInt8.ofNat n.toNat) = (lettersTo d 8).map (fun n : Int => UInt8.ofNat n.toNat) ++ [122] := by simp
    rw [e, if_pos (hasSuffix_z _)]
    simp
  | false =>
    have e : (lettersTo d 8 ++ (if false = true then [122] else [])).map (fun n : Int => UInt8.ofNat n.toNat) = (lettersTo d 8).map (fun n : Int => UInt8.ofNat n.toNat) := by simp
    rw [e, if_neg]
    intro h
    rw [Lib.hasSuffix, List.isSuffixOf_iff_suffix] at h
    have hm := h.subset (List.mem_singleton.2 rfl)
    obtain ⟨x, hx, e2⟩ := List.mem_map.1 hm
    have hr := lettersTo_range d x hx
    have := ofNat_inj (x := x) (y := 122) (by omega) (by omega) (by omega) (by omega) (by rw [e2]; rfl)
    omega

theorem trimS_any (s p : ByteArray) (w : World) (hs : s.size ≤ 9223372036854775807) :
    Calls Tryz.prog 92 #[.string s, .string p] w fun e w' => e = .returned (.string ⟨(Lib.trimSuffix s.data.toList p.data.toList).toArray⟩) ∧ w' = w := Any.strings_TrimSuffix Tryz.laysTrimS s p w hs

set_option maxRecDepth 100000 in
set_option maxHeartbeats 1000000 in
theorem caseTargets_any (b off cap : Nat) (d : Array CaseD) (rest : Int) (w : World) (hR : RowC w b off d) (hE : ErrAt w) (hcap : d.size ≤ cap) (hmax : cap ≤ maxLen) (hok : SwOK d rest) :
    Calls Tryz.prog 53 #[.agg #[.slice (some ⟨b, off, none⟩) d.size cap, .int .i64 rest]] w fun x w' => x = .returned (.string (strOf (lettersTo d 8))) ∧ RowKit.Below w.heap.size w w' := by
  have ht := fun W (hW : RowKit.Below w.heap.size w W) => implTargets_any b off cap d rest W (hR.below hW) (hE.below hW) hcap hmax
  have hs := (swB_iff _ _).2 hok
  have e : targetsN d rest = strOf (lettersZ d (decide (keysN d rest < 32))) := by rw [targetsN, if_pos hs]
  have hl : (lettersZ d (decide (keysN d rest < 32))).length ≤ 9 := by
    have := lettersTo_length d 8
    unfold lettersZ
    rw [List.length_append]
    split <;> simp <;> omega
  have htr := trim_letters d (decide (keysN d rest < 32))
  simp only [e, hs] at ht
  obtain ⟨z, hz⟩ : ∃ z, z = strOf (lettersZ d (decide (keysN d rest < 32))) := ⟨_, rfl⟩
  have hzs : z.size ≤ 9223372036854775807 := by rw [hz, strOf_size]; omega
  rw [← hz] at ht htr
  have HTR := Lib.hid htr
  have HT := Lib.hid ht
  have HTS := Lib.hid (fun W => trimS_any z zS W hzs)
  obtain ⟨wa, hwa⟩ : ∃ wa, wa = w.alloc (.cells #[.slice (some ⟨b, off, none⟩) d.size cap, .int .i64 rest] 25) := ⟨_, rfl⟩
  have c0 : wa.cell? ⟨w.heap.size, 0, none⟩ = some (.slice (some ⟨b, off, none⟩) d.size cap) := by rw [hwa]; simp
  have c1 : wa.cell? ⟨w.heap.size, 1, none⟩ = some (.int .i64 rest) := by rw [hwa]; simp
  have hba : RowKit.Below w.heap.size w wa := by rw [hwa]; exact (Below.refl _ _).alloc (Nat.le_refl _) _
  have HA := Lib.hid hba
  have HWA := Lib.hid hwa
  clear hba hwa hR hok hE hs ht htr hz hzs e hl
  go_enter Tryz.func53, Tryz.ntmps53
  go_wp2_with fail
  rw [← HWA.out]
  go_wp2_with fail
  refine (HT.out _ HA.out).mono ?_
  rintro x w1 ⟨rfl, hb⟩
  have HB := Lib.hid (HA.out.trans (hb.mono HA.out.size))
  clear hb c0 c1
  go_wp2_with (first
    | (go_at_call 41; refine (text_any _).mono ?_; rintro y w3 ⟨rfl, hb3⟩; have HB3 := Lib.hid (HB.out.trans (hb3.mono HB.out.size)); clear hb3)
    | (go_at_call 92; refine (HTS.out _).mono ?_; rintro y w3 ⟨rfl, rfl⟩))
  go_ret
  exact ⟨retS HTR.out, HB3.out⟩

theorem holds_bytesRow {W : World} {g cap : Nat} {e : TypeId} {s : ByteArray} (h : W.heap[g]? = some (.cells (bytesRow s cap) e ((bytesRow s cap).size, (bytesRow s cap).size + 1))) : Holds encB W g 0 (byA s) := by
  intro j hj
  rw [byA_size] at hj
  have hd : s.data.size = s.size := rfl
  have hsz : s.size ≤ (bytesRow s cap).size := by
    have : (bytesRow s cap).size = s.data.size + (cap - s.size) := by simp [bytesRow]
    omega
  rw [Nat.zero_add, byA_get hj]
  constructor
  · rw [cell_of_row W g j _ _ _ h]
    rw [bytesRow, Array.getElem?_append_left (by simp; omega)]
    have e2 : s.data[j]? = some s.data[j]! := by rw [getElem!_pos s.data j (by omega)]; simp
    simp [byteN, e2, encB]
  · simp [World.frozen?, h]
    omega

set_option maxRecDepth 100000 in
set_option maxHeartbeats 2000000 in
theorem isWordOrder_any (b off cap : Nat) (d : Array CaseD) (rest : Int) (s : ByteArray) (w : World) (hR : RowC w b off d) (hE : ErrAt w) (hcap : d.size ≤ cap) (hmax : cap ≤ maxLen) (hs : s.size ≤ 1048576) :
    Calls Tryz.prog 37 #[.agg #[.slice (some ⟨b, off, none⟩) d.size cap, .int .i64 rest], .string s] w fun x w' => x = .returned (.bool (swB d rest && ordWB d s)) ∧ RowKit.Below w.heap.size w w' := by
  have hv := fun W (hW : RowKit.Below w.heap.size w W) => switchValid_any b off cap d rest W (hR.below hW) (hE.below hW) hcap hmax
  have HCT := Lib.hid (fun hok W (hW : RowKit.Below w.heap.size w W) => caseTargets_any b off cap d rest W (hR.below hW) (hE.below hW) hcap hmax hok)
  have hsi : (s.size : Int) ≤ 1048576 := by omega
  obtain ⟨wa, hwa⟩ : ∃ wa, wa = w.alloc (.cells #[.slice (some ⟨b, off, none⟩) d.size cap, .int .i64 rest] 25) := ⟨_, rfl⟩
  have c0 : wa.cell? ⟨w.heap.size, 0, none⟩ = some (.slice (some ⟨b, off, none⟩) d.size cap) := by rw [hwa]; simp
  have c1 : wa.cell? ⟨w.heap.size, 1, none⟩ = some (.int .i64 rest) := by rw [hwa]; simp
  have hz : w.heap.size < wa.heap.size := by rw [hwa]; simp
  have hba : RowKit.Below w.heap.size w wa := by rw [hwa]; exact (Below.refl _ _).alloc (Nat.le_refl _) _
  have HA := Lib.hid hba
  have C0 := Lib.hid c0
  have C1 := Lib.hid c1
  have HWA := Lib.hid hwa
  clear hba hwa hR hE
  cases hsw : swB d rest
  · rw [hsw] at hv
    have HV := Lib.hid hv
    clear hv
    go_enter Tryz.func37, Tryz.ntmps37
    go_wp2_with fail
    rw [← HWA.out]
    go_wp2_with fail
    refine (HV.out _ HA.out).mono ?_
    rintro x w1 ⟨rfl, hb⟩
    have HB := Lib.hid (HA.out.trans (hb.mono HA.out.size))
    clear hb c0 c1
    go_wp2_with fail
    go_ret
    exact ⟨rfl, HB.out⟩
  · rw [hsw] at hv
    have HV := Lib.hid hv
    have HOK := Lib.hid ((swB_iff _ _).1 hsw)
    clear hv hsw
    by_cases hlen : 8 < s.size
    · have hli : (8 : Int) < (s.size : Int) := by omega
      have HL := Lib.hid (ordW_long (d := d) hlen)
      clear hlen
      go_enter Tryz.func37, Tryz.ntmps37
      go_wp2_with fail
      rw [← HWA.out]
      go_wp2_with fail
      refine (HV.out _ HA.out).mono ?_
      rintro x w1 ⟨rfl, hb⟩
      have HB := Lib.hid (HA.out.trans (hb.mono HA.out.size))
      clear hb c0 c1
      go_wp2_with fail
      go_ret
      exact ⟨retB (by rw [HL.out]; rfl), HB.out⟩
    · have hli : ¬ (8 : Int) < (s.size : Int) := by omega
      have HCV := Lib.hid (fun W => run_bytes_of_string (P := Tryz.prog) W 9 22 5 s Tryz.underlying9 Tryz.underlying22 Tryz.underlying5)
      have HSZ := Lib.hid (show s.size ≤ 8 by omega)
      go_enter Tryz.func37, Tryz.ntmps37
      go_wp2_with fail
      rw [← HWA.out]
      go_wp2_with fail
      refine (HV.out _ HA.out).mono ?_
      rintro x w1 ⟨rfl, hb⟩
      have hz1 := hb.size
      have a0 := (hb.cell (p := ⟨w.heap.size, 0, none⟩) hz).trans C0.out
      have a1 := (hb.cell (p := ⟨w.heap.size, 1, none⟩) hz).trans C1.out
      have HBA := Lib.hid (show RowKit.Below wa.heap.size wa w1 from hb)
      clear hb c0 c1
      have hcv := HCV.out w1
      obtain ⟨gc, hgc⟩ : ∃ gc, gc = grownCap w1 s.size 0 5 := ⟨_, rfl⟩
      rw [← hgc] at hcv
      clear hgc
      go_wp2_with fail
      have hWh : ((w1.alloc (.cells (bytesRow s gc) 5 ((bytesRow s gc).size, (bytesRow s gc).size + 1))).drew).heap[w1.heap.size]? = some (.cells (bytesRow s gc) 5 ((bytesRow s gc).size, (bytesRow s gc).size + 1)) := World.alloc_heap_new w1 _
      have hWB : RowKit.Below wa.heap.size wa ((w1.alloc (.cells (bytesRow s gc) 5 ((bytesRow s gc).size, (bytesRow s gc).size + 1))).drew) := (HBA.out.alloc hz1 _).drew
      have hWZ : ((w1.alloc (.cells (bytesRow s gc) 5 ((bytesRow s gc).size, (bytesRow s gc).size + 1))).drew).heap.size = w1.heap.size + 1 := by simp [World.drew]
      generalize ((w1.alloc (.cells (bytesRow s gc) 5 ((bytesRow s gc).size, (bytesRow s gc).size + 1))).drew) = W2 at hWh hWB hWZ ⊢
      have hsort := sortB_any w1.heap.size gc (byA s) W2 (holds_bytesRow hWh) (by rw [byA_size]; have := HSZ.out; omega)
      rw [byA_size] at hsort
      refine hsort.mono ?_
      rintro x w3 ⟨rfl, hH3, hg3⟩
      have hB3 : RowKit.Below wa.heap.size wa w3 := hWB.grown hg3 (by omega) (fun q hq => by cases hq; omega)
      have z3 : w.heap.size < w3.heap.size := by have := hB3.size; omega
      have b0 := (hB3.cell (p := ⟨w.heap.size, 0, none⟩) hz).trans C0.out
      have b1 := (hB3.cell (p := ⟨w.heap.size, 1, none⟩) hz).trans C1.out
      have g3 : w1.heap.size < w3.heap.size := by have := hg3.size; omega
      obtain ⟨q, hq⟩ : ∃ q, q = insertionSort ltZ (byA s) 0 (byA s).size := ⟨_, rfl⟩
      have hqs : q.toList.length = s.size := by rw [hq, Array.length_toList, (sort_perm (byA s)).1, byA_size]
      have HTX := Lib.hid (ordW_text d s)
      rw [← hq] at hH3 HTX
      have HWW := Lib.hid (HA.out.trans (hB3.mono (by omega)))
      have hcb := fun p : BW w3 => bytes_string (W := p.W) (g := w1.heap.size) (cap := gc) q.toList (fun j v hj => by
        have hj' : j < q.size := by have := (List.getElem?_eq_some_iff.1 hj).1; simpa using this
        have := (hH3 j hj').1
        rw [Nat.zero_add] at this
        rw [p.cell (a := ⟨w1.heap.size, j, none⟩) g3 this]
        rw [← hj]
        simp [hj'])
      rw [hqs] at hcb
      have q0 := fun p : BW w3 => p.cell z3 b0
      have q1 := fun p : BW w3 => p.cell z3 b1
      have GC := Lib.hid fun p : BW w3 => HCT.out HOK.out p.W (HWW.out.trans (p.h.mono HWW.out.size))
      clear hq hqs hH3 hg3 hB3 hWh hWB hWZ hsort hcv b0 b1 a0 a1
      go_wp2_with fail
      refine wp_region_bw (by kernel_rfl) (by kernel_rfl) ?_
      repeat (go_big_quiet_step (with_reducible refine bw_of (GC.out _)))
      refine wpQuiet_nil ?_
      rintro _ ⟨⟨W', hBW⟩, rfl⟩
      have HBW := Lib.hid (HWW.out.trans (hBW.mono HWW.out.size))
      clear hBW
      go_wp2_with fail
      go_ret
      exact ⟨retB (by rw [HTX.out]; rfl), HBW.out⟩
end Go.Proofs.YtbhamkmiagdimaaGreatDoor
