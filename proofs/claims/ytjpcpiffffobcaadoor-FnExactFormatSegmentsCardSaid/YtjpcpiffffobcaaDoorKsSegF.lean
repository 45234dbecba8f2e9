
/- FormatSegments: the program's and the model's. -/
import Derived.Test.YtjpcpiffffobcaaDoorKsTextF
import Derived.Test.YtjpcpiffffobcaaDoorKsQuiet
import Derived.Deep.RegionHeld3
import Derived.BigQuiet
namespace Go.Proofs.YtjpcpiffffobcaaDoor
open Go.RowKit Go.Shelf Go.Lib Go.Sort

def segF (d : Array CaseD) : Nat → ByteArray
  | 0 => ⟨#[]⟩
  | 1 => textF d[0]!
  | k + 2 => (segF d (k + 1) ++ spaceF) ++ textF d[k + 1]!
/-- The text of a list of segments. -/
def segsF (d : Array CaseD) : ByteArray := if d.size = 0 then dashF else segF d d.size
theorem segF_size {d : Array CaseD} (h : ∀ j, j < d.size → FitC d[j]!) : ∀ k, k ≤ d.size → (segF d k).size ≤ 1048641 * k
  | 0, _ => Nat.le_refl 0
  | 1, hk => by have := textF_size (h 0 (by omega)); show (textF d[0]!).size ≤ _; omega
  | k + 2, hk => by
    have a := segF_size h (k + 1) (by omega)
    have b := textF_size (h (k + 1) (by omega))
    have : spaceF.size = 1 := rfl
    show ((segF d (k + 1) ++ spaceF) ++ textF d[k + 1]!).size ≤ _
    rw [sizeF_app, sizeF_app]
    omega
theorem joinTail_snocF (sep : List UInt8) (r : List (List UInt8)) (y : List UInt8) : Lib.joinTail sep (r ++ [y]) = Lib.joinTail sep r ++ sep ++ y := by
  simp [Lib.joinTail, List.append_assoc]
def textsF (d : Array CaseD) (n : Nat) : List ByteArray := (List.range n).map fun j => textF d[j]!
theorem textsF_succ (d : Array CaseD) (n : Nat) : textsF d (n + 1) = textsF d n ++ [textF d[n]!] := by simp [textsF, List.range_succ]
theorem join_textsF (d : Array CaseD) : ∀ n, (⟨(Lib.join ((textsF d n).map (·.data.toList)) spaceF.data.toList).toArray⟩ : ByteArray) = segF d n
  | 0 => rfl
  | 1 => by
    show (⟨(Lib.join [(textF d[0]!).data.toList] spaceF.data.toList).toArray⟩ : ByteArray) = textF d[0]!
    rw [Lib.join_one]
  | k + 2 => by
    have ih := join_textsF d (k + 1)
    have hne : ∃ x r, (textsF d (k + 1)).map (·.data.toList) = x :: r := by
      cases hh : (textsF d (k + 1)).map (·.data.toList) with
      | nil => have : ((textsF d (k + 1)).map (·.data.toList)).length = 0 := by rw [hh]; rfl
               simp [textsF] at this
      | cons x r => exact ⟨x, r, rfl⟩
    obtain ⟨x, r, hx⟩ := hne
    rw [textsF_succ, List.map_append, hx, List.map_cons, List.map_nil, List.cons_append, Lib.join_cons, joinTail_snocF, ← List.append_assoc, ← List.append_assoc, ← Lib.join_cons, ← hx]
    show _ = (segF d (k + 1) ++ spaceF) ++ textF d[k + 1]!
    rw [← ih]
    generalize Lib.join ((textsF d (k + 1)).map (·.data.toList)) spaceF.data.toList = l
    apply ByteArray.ext
    simp [ByteArray.data_append]
def strRowF (d : Array CaseD) (n : Nat) : List Value := (List.range n).map fun j => Value.string (textF d[j]!)
theorem strRowF_succ (d : Array CaseD) (n : Nat) : strRowF d n ++ [.string (textF d[n]!)] = strRowF d (n + 1) := by simp [strRowF, List.range_succ]
theorem info9F : (Tryd.prog.info? 9).map (fun i => (i.zero, i.size, i.bytes)) = some (some (.string ⟨#[]⟩), 1, 16) := by kernel_rfl

theorem joinF_any (d : Array CaseD) (n base : Nat) (v : Value) (w : World) (ho : w.ownsRow base 9 1 v n (strRowF d n)) (hf : ∀ j, j < d.size → FitC d[j]!) (hd : d.size ≤ 1048576) (hn : n ≤ d.size) :
    Calls Tryd.prog 60 #[v, .string spaceF] w fun x w' => x = .returned (.string (segF d n)) ∧ RowKit.Below w.heap.size w w' := by
  rcases ho.2 with ⟨rfl, rfl⟩ | ⟨g, cap, cur, rfl, hg, hh, hnc, hcm, _⟩
  · exact (Tryd.strings_Join_none none 0 spaceF w).mono fun _ _ ⟨h1, h2⟩ => ⟨h1, h2 ▸ Below.refl _ _⟩
  · have hlen : (textsF d n).length = n := by simp [textsF]
    have h := Tryd.strings_Join g 0 cap (textsF d n) spaceF w (fun j x hx => ?_) (Array.getElem?_eq_some_iff.1 hh).1 (by rw [hlen]; omega) (by rw [hlen]; exact hnc) ?_
    · rw [hlen, join_textsF] at h
      exact h
    · obtain ⟨hj, rfl⟩ := List.getElem?_eq_some_iff.1 hx
      have hj' : j < n := by simpa [textsF] using hj
      rw [Nat.zero_add, ho.cellAt j (by omega)]
      simp [strRowF, textsF, hj']
    · have h1 := congrArg ByteArray.size (join_textsF d n)
      have h2 := segF_size hf n hn
      have h4 : (⟨(Lib.join ((textsF d n).map (·.data.toList)) spaceF.data.toList).toArray⟩ : ByteArray).size = (Lib.join ((textsF d n).map (·.data.toList)) spaceF.data.toList).length := by simp [ByteArray.size]
      rw [h4] at h1
      omega

set_option maxRecDepth 100000 in
set_option maxHeartbeats 2000000 in
theorem implSegF_any (b off cap : Nat) (d : Array CaseD) (w : World) (hR : RowC w b off d) (hf : ∀ j, j < d.size → FitC d[j]!) (hd : d.size ≤ 1048576) (hT : TabA w) :
    Calls Tryd.prog 42 #[.slice (some ⟨b, off, none⟩) d.size cap] w fun x w' => x = .returned (.string (segsF d)) ∧ RowKit.Below w.heap.size w w' := by
  have HR := Lib.hid hR
  have HF := Lib.hid hf
  have HTA := Lib.hid hT
  obtain ⟨i0, hi, hi0, hi1, hi2⟩ := info_parts info9F
  have hdi : (d.size : Int) ≤ 1048576 := by omega
  clear hR hf hT
  by_cases h0 : d.size = 0
  · have h0i : ((d.size : Nat) : Int) = 0 := by omega
    have h0b : ((d.size : Int) == 0) = true := by simpa using h0i
    have HE := Lib.hid (show segsF d = dashF by rw [segsF, if_pos h0])
    clear h0
    go_enter Tryd.func42, Tryd.ntmps42
    go_wp2
    go_ret
    exact ⟨retStr (by rw [HE.out]; rfl), Below.refl _ _⟩
  · have h0i : ¬ ((d.size : Nat) : Int) = 0 := by omega
    have h0b : ((d.size : Int) == 0) = false := by simpa using h0i
    have HE := Lib.hid (show segsF d = segF d d.size by rw [segsF, if_neg h0])
    clear h0
    go_enter Tryd.func42, Tryd.ntmps42
    go_wp2_with fail
    go_loopw [3, 11] (fun v i wr => ∃ k : Nat, i = .int .i64 k ∧ k ≤ d.size ∧ Hid (wr.ownsRow w.heap.size 9 1 v k (strRowF d k)) ∧ Hid (RowKit.Below w.heap.size w wr) ∧ w.heap.size ≤ wr.heap.size) (fun _ i _ => d.size - (intOf i).toNat)
    case atStart => exact ⟨0, rfl, Nat.zero_le _, ⟨rfl, .inl ⟨rfl, rfl⟩⟩, Below.refl _ _, Nat.le_refl _⟩
    case round =>
      obtain ⟨k, rfl, hk, HOwn, HW, hw2⟩ := hrel
      by_cases hlt : k < d.size
      · have hx := HR.out.below HW.out
        have x0 := hx.low k hlt
        have x1 := hx.high k hlt
        have x2 := hx.target k hlt
        have x3 := hx.weight k hlt
        have hcase := HF.out k hlt
        clear hx
        obtain ⟨x, hxe⟩ : ∃ x, x = d[k]! := ⟨_, rfl⟩
        rw [← hxe] at x0 x1 x2 x3 hcase
        have HKW := Lib.hid (show textF d[k]! = textF x by rw [hxe])
        clear hxe
        have hcall := Lib.hid (fun W (hW : RowKit.Below w.heap.size w W) => textF_any x W hcase (tabA_below HTA.out hW))
        have hts := textF_size hcase
        obtain ⟨z, hzz⟩ : ∃ z, z = textF x := ⟨_, rfl⟩
        rw [← hzz] at hcall HKW hts
        have HA2 := Lib.hid (HW.out.alloc hw2 (.cells #[.int .i64 x.low, .int .i64 x.high, .string x.target, .int .i64 x.weight] 90))
        have hki : (k : Int) < (d.size : Int) := by omega
        clear hzz hcase
        go_wp2_with (first
          | (go_at_call 62; refine (hcall.out _ HA2.out).mono ?_; rintro y w2 ⟨rfl, hb2⟩; have hb3 := Lib.hid (((Below.refl wr.heap.size wr).alloc (Nat.le_refl _) (.cells #[.int .i64 x.low, .int .i64 x.high, .string x.target, .int .i64 x.weight] 90)).trans (hb2.mono (by simp))); have HO2 := Lib.hid (owns_below HOwn.out hb3.out); have hz3 := hb3.out.size; clear hb2)
          | (at_builtin; refine wpList_append_own _ rfl _ _ 87 rfl w.heap.size 9 i0 (.string ⟨#[]⟩) 1 16 Tryd.underlying87 hi hi0 hi1 hi2 rfl (by decide) _ _ _ rfl (HO2.out.alloc _) ⟨w2.heap.size, 0, none⟩ 1 1 [.string z] rfl rfl ?c1 ?c2 ?c3 ?c4 ?c5 ?_))
        case c1 => intro j u hj; match j, hj with | 0, hj => simp at hj; subst hj; simp [Addr.add]
        case c2 => intro u hu; simp at hu; subst hu; rfl
        case c3 => unfold maxLen; omega
        case c4 => omega
        case c5 => simp; omega
        intro v' w3 hown3 hgrow _
        rw [← HKW.out, strRowF_succ] at hown3
        have HO3 := Lib.hid hown3
        have hb4 : RowKit.Below w.heap.size w w3 := ((HW.out.trans (hb3.out.mono hw2)).alloc (by omega) _).grown hgrow (by simp; omega) (fun q hq => (HO2.out.lt q hq).1)
        have HW4 := Lib.hid hb4
        have hz4 := hb4.size
        clear hown3 hgrow hb4
        go_wp2
        go_roundw
        case rel => exact ⟨k + 1, by go_num, by omega, HO3.out, HW4.out, hz4⟩
        case measure => simp [intOf]; omega
      · have hke : k = d.size := by omega
        have HE2 := Lib.hid (show segsF d = segF d k by rw [HE.out, hke])
        have hj := Lib.hid (joinF_any d k w.heap.size _ wr HOwn.out HF.out hd hk)
        have hkn : ¬ (k : Int) < (d.size : Int) := by omega
        clear hke
        go_wp2_with fail
        refine hj.out.mono ?_
        rintro e w2 ⟨rfl, hb⟩
        have HB := Lib.hid (HW.out.trans (hb.mono hw2))
        clear hb
        go_wp2
        go_ret
        exact ⟨retStr HE2.out.symm, HB.out⟩

theorem segF_pos {d : Array CaseD} : ∀ k, 0 < k → 0 < (segF d k).size
  | 1, _ => by
    show 0 < (textF d[0]!).size
    unfold textF
    rw [sizeF_app]
    have : 0 < (itoaF d[0]!.weight).size := by
      rw [itoaF, Lib.itoa]
      split
      · simp [ByteArray.size]
      · have := Lib.decDigits_length d[0]!.weight.toNat
        have h2 := Lib.nDigits_pos d[0]!.weight.toNat
        simp [ByteArray.size]
        omega
    omega
  | k + 2, _ => by
    show 0 < ((segF d (k + 1) ++ spaceF) ++ textF d[k + 1]!).size
    rw [sizeF_app, sizeF_app]
    have : spaceF.size = 1 := rfl
    omega

set_option maxRecDepth 100000 in
set_option maxHeartbeats 2000000 in
theorem specSegF_any (b off cap : Nat) (d : Array CaseD) (w : World) (hR : RowC w b off d) (hf : ∀ j, j < d.size → FitC d[j]!) (hd : d.size ≤ 1048576) :
    Calls Tryd.prog 40 #[.slice (some ⟨b, off, none⟩) d.size cap] w fun x w' => x = .returned (.string (segsF d)) ∧ RowKit.Below w.heap.size w w' := by
  have HR := Lib.hid hR
  have HF := Lib.hid hf
  have HSZ := Lib.hid (fun k hk => segF_size hf k hk)
  have hdi : (d.size : Int) ≤ 1048576 := by omega
  clear hR hf
  go_enter Tryd.func40, Tryd.ntmps40
  go_wp2_with fail
  go_loopw [3, 8] (fun o i wr => ∃ k : Nat, i = .int .i64 k ∧ k ≤ d.size ∧ o = .string (segF d k) ∧ Hid (RowKit.Below w.heap.size w wr) ∧ w.heap.size ≤ wr.heap.size) (fun _ i _ => d.size - (intOf i).toNat)
  case atStart => exact ⟨0, rfl, Nat.zero_le _, rfl, Below.refl _ _, Nat.le_refl _⟩
  case round =>
    obtain ⟨k, rfl, hk, rfl, HW, hw2⟩ := hrel
    have hsz := HSZ.out k hk
    by_cases hlt : k < d.size
    · have hx := HR.out.below HW.out
      have x0 := hx.low k hlt
      have x1 := hx.high k hlt
      have x2 := hx.target k hlt
      have x3 := hx.weight k hlt
      have hcase := HF.out k hlt
      clear hx
      have HNX := Lib.hid (show segF d (k + 1) = (if 0 < k then segF d k ++ spaceF else segF d k) ++ textF d[k]! by
        cases k with
        | zero => apply ByteArray.ext; simp [segF, ByteArray.data_append]
        | succ k => rw [if_pos (by omega)]; rfl)
      obtain ⟨x, hxe⟩ : ∃ x, x = d[k]! := ⟨_, rfl⟩
      rw [← hxe] at x0 x1 x2 x3 hcase HNX
      obtain ⟨l0, l1, g0, g1, w0, w1, tg⟩ := hcase
      have s1 := rangeF_size l0 l1 g0 g1
      have s3 := itoaF_size w0 w1
      have i1 := Lib.hid (fun W => l1RangeF_any x.low x.high W l0 l1 g0 g1)
      have i3 := Lib.hid (fun W => decF_any x.weight w0 w1 W)
      have HT := Lib.hid (show textF x = (rangeF x.low x.high ++ x.target) ++ itoaF x.weight from rfl)
      clear hxe l0 l1 g0 g1 w0 w1
      obtain ⟨lo, hi, tgt, wt⟩ := x
      simp only at *
      obtain ⟨z1, hz1⟩ : ∃ z, z = rangeF lo hi := ⟨_, rfl⟩
      obtain ⟨z3, hz3⟩ : ∃ z, z = itoaF wt := ⟨_, rfl⟩
      rw [← hz1] at i1 s1 HT
      rw [← hz3] at i3 s3 HT
      obtain ⟨S, hS⟩ : ∃ S, S = segF d k := ⟨_, rfl⟩
      rw [← hS] at hsz HNX ⊢
      have hki : (k : Int) < (d.size : Int) := by omega
      have hSs : S.size ≤ 1100000000000 := by omega
      clear hz1 hz3 hS hsz
      obtain ⟨wb, hwb⟩ : ∃ wb, wb = wr.alloc (.cells #[.int .i64 lo, .int .i64 hi, .string tgt, .int .i64 wt] 90) := ⟨_, rfl⟩
      have hbb : RowKit.Below wr.heap.size wr wb := by rw [hwb]; exact (Below.refl _ _).alloc (Nat.le_refl _) _
      have d0 : wb.cell? ⟨wr.heap.size, 0, none⟩ = some (.int .i64 lo) := by rw [hwb]; simp
      have d1 : wb.cell? ⟨wr.heap.size, 1, none⟩ = some (.int .i64 hi) := by rw [hwb]; simp
      have d2 : wb.cell? ⟨wr.heap.size, 2, none⟩ = some (.string tgt) := by rw [hwb]; simp
      have d3 : wb.cell? ⟨wr.heap.size, 3, none⟩ = some (.int .i64 wt) := by rw [hwb]; simp
      have hzb : wr.heap.size < wb.heap.size := by rw [hwb]; simp
      have q0 := fun p : BW wb => p.cell (a := ⟨wr.heap.size, 0, none⟩) hzb d0
      have q1 := fun p : BW wb => p.cell (a := ⟨wr.heap.size, 1, none⟩) hzb d1
      have q2 := fun p : BW wb => p.cell (a := ⟨wr.heap.size, 2, none⟩) hzb d2
      have q3 := fun p : BW wb => p.cell (a := ⟨wr.heap.size, 3, none⟩) hzb d3
      have HWB := Lib.hid hwb
      have HBB := Lib.hid (HW.out.trans (hbb.mono hw2))
      clear hwb hbb d0 d1 d2 d3
      rcases Nat.eq_zero_or_pos k with h0 | h0
      · have HN2 := Lib.hid (HNX.out.trans (by rw [if_neg (by omega)]))
        have hk0 : ¬ (0 : Int) < (k : Int) := by omega
        clear HNX h0
        go_wp2_with fail
        rw [← HWB.out]
        refine wp_region_bw (by kernel_rfl) (by kernel_rfl) ?_
        repeat (go_big_quiet_step ((first | (go_at_call 58; refine bw_of (i1.out _)) | (go_at_call 61; refine bw_of (i3.out _)))))
        refine wpQuiet_nil ?_
        rintro _ ⟨p, rfl⟩
        have HP := Lib.hid (HBB.out.trans (p.h.mono HBB.out.size))
        have hzp := p.h.size
        go_wp2
        go_roundw
        case rel => exact ⟨k + 1, by go_num, by omega, by rw [HN2.out, HT.out]; simp only [ByteArray.append_assoc]; try rfl, HP.out, HP.out.size⟩
        case measure => simp [intOf]; omega
      · have HN2 := Lib.hid (HNX.out.trans (by rw [if_pos h0]))
        have hk0 : (0 : Int) < (k : Int) := by omega
        clear HNX h0
        go_wp2_with fail
        rw [← HWB.out]
        refine wp_region_bw (by kernel_rfl) (by kernel_rfl) ?_
        repeat (go_big_quiet_step ((first | (go_at_call 58; refine bw_of (i1.out _)) | (go_at_call 61; refine bw_of (i3.out _)))))
        refine wpQuiet_nil ?_
        rintro _ ⟨p, rfl⟩
        have HP := Lib.hid (HBB.out.trans (p.h.mono HBB.out.size))
        have hzp := p.h.size
        go_wp2
        go_roundw
        case rel => exact ⟨k + 1, by go_num, by omega, by rw [HN2.out, HT.out]; simp only [ByteArray.append_assoc]; try rfl, HP.out, HP.out.size⟩
        case measure => simp [intOf]; omega
    · have hke : k = d.size := by omega
      have hkn : ¬ (k : Int) < (d.size : Int) := by omega
      rcases Nat.eq_zero_or_pos k with h0 | h0
      · have HE := Lib.hid (show segsF d = dashF by rw [segsF, if_pos (by omega)])
        have hs0 : segF d k = ⟨#[]⟩ := by rw [h0]; rfl
        rw [hs0]
        clear hs0 h0 hke hsz
        go_wp2
        go_ret
        exact ⟨retStr (by rw [HE.out]; rfl), HW.out⟩
      · have HE := Lib.hid (show segsF d = segF d k by rw [segsF, if_neg (by omega), hke])
        have hp := segF_pos (d := d) k h0
        obtain ⟨S, hS⟩ : ∃ S, S = segF d k := ⟨_, rfl⟩
        rw [← hS] at HE hp ⊢
        have hne : (S.toList == []) = false := by
          rw [ByteArray.toList_eq]
          cases hh : S.data.toList with
          | nil => have h2 : S.size = 0 := by { show S.data.size = 0; rw [← Array.length_toList, hh]; rfl }
                   omega
          | cons a l => rfl
        clear hS h0 hke hsz
        go_wp2
        go_ret
        exact ⟨retStr HE.out.symm, HW.out⟩
end Go.Proofs.YtjpcpiffffobcaaDoor
