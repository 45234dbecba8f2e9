
/- Words: caseTargets, isWordOrder of the program. -/
import Derived.Test.YtbhamkmiagdimaaDoorKsWordI
import Derived.Test.YtbhamkmiagdimaaDoorKsTargetsImpl
import Derived.Test.YtbhamkmiagdimaaDoorKsLay9
import Derived.Laws.IdiomStrings
namespace Go.Proofs.YtbhamkmiagdimaaDoor
open Go.RowKit Go.Shelf Go.Lib Go.Sort

theorem hasSuffix_z (l : List UInt8) : Lib.hasSuffix (l ++ [122]) [122] = true := by
  rw [Lib.hasSuffix, List.isSuffixOf_iff_suffix]
  exact List.suffix_append _ _
theorem trim_letters (d : Array CaseD) (z : Bool) : (⟨(Lib.trimSuffix (strOf (lettersZ d z)).data.toList zS.data.toList).toArray⟩ : ByteArray) = strOf (lettersTo d 8) := by
  have hz : zS.data.toList = [122] := rfl
  apply ByteArray.ext
  apply Array.ext'
  rw [hz, strOf_data, strOf_data]
  show Lib.trimSuffix _ _ = _
  unfold lettersZ Lib.trimSuffix
  cases z with
  | true =>
    have e : (lettersTo d 8 ++ (if true = true then [122] else [])).map (fun n : Int => UInt8.ofNat n.toNat) = (lettersTo d 8).map (fun n : Int => UInt8.ofNat n.toNat) ++ [122] := by simp
    rw [e, if_pos (hasSuffix_z _)]
    simp
  | false =>
    have e : (lettersTo d 8 ++ (if false = true then [122] else [])).map (fun n : Int => UInt8.ofNat n.toNat) = (lettersTo d 8).map (fun n : Int => UInt8.ofNat n.toNat) := by simp
    rw [e, if_neg]
    intro h
    rw [Lib.hasSuffix, List.isSuffixOf_iff_suffix] at h
    have hm := h.subset (List.mem_singleton.2 rfl)
    obtain ⟨x, hx, e2⟩ := List.mem_map.1 hm
    have hr := lettersTo_range d x hx
    have := ofNat_inj (x := x) (y := 122) (by omega) (by omega) (by omega) (by omega) (by rw [e2]; rfl)
    omega

theorem trimS_any (s p : ByteArray) (w : World) (hs : s.size ≤ 9223372036854775807) :
    Calls Tryd.prog 91 #[.string s, .string p] w fun e w' => e = .returned (.string ⟨(Lib.trimSuffix s.data.toList p.data.toList).toArray⟩) ∧ w' = w := Any.strings_TrimSuffix Tryd.laysTrimS s p w hs

set_option maxRecDepth 100000 in
set_option maxHeartbeats 1000000 in
theorem caseTargets_any (b off cap : Nat) (d : Array CaseD) (rest : Int) (w : World) (hR : RowC w b off d) (hE : ErrAt w) (hcap : d.size ≤ cap) (hmax : cap ≤ maxLen) (hok : SwOK d rest) :
    Calls Tryd.prog 61 #[.agg #[.slice (some ⟨b, off, none⟩) d.size cap, .int .i64 rest]] w fun x w' => x = .returned (.string (strOf (lettersTo d 8))) ∧ RowKit.Below w.heap.size w w' := by
  have ht := fun W (hW : RowKit.Below w.heap.size w W) => implTargets_any b off cap d rest W (hR.below hW) (hE.below hW) hcap hmax
  have hs := (swB_iff _ _).2 hok
  have e : targetsN d rest = strOf (lettersZ d (decide (keysN d rest < 32))) := by rw [targetsN, if_pos hs]
  have hl : (lettersZ d (decide (keysN d rest < 32))).length ≤ 9 := by
    have := lettersTo_length d 8
    unfold lettersZ
    rw [List.length_append]
    split <;> simp <;> omega
  have htr := trim_letters d (decide (keysN d rest < 32))
  simp only [e, hs] at ht
  obtain ⟨z, hz⟩ : ∃ z, z = strOf (lettersZ d (decide (keysN d rest < 32))) := ⟨_, rfl⟩
  have hzs : z.size ≤ 9223372036854775807 := by rw [hz, strOf_size]; omega
  rw [← hz] at ht htr
  have HTR := Lib.hid htr
  have HT := Lib.hid ht
  have HTS := Lib.hid (fun W => trimS_any z zS W hzs)
  obtain ⟨wa, hwa⟩ : ∃ wa, wa = w.alloc (.cells #[.slice (some ⟨b, off, none⟩) d.size cap, .int .i64 rest] 32) := ⟨_, rfl⟩
  have c0 : wa.cell? ⟨w.heap.size, 0, none⟩ = some (.slice (some ⟨b, off, none⟩) d.size cap) := by rw [hwa]; simp
  have c1 : wa.cell? ⟨w.heap.size, 1, none⟩ = some (.int .i64 rest) := by rw [hwa]; simp
  have hba : RowKit.Below w.heap.size w wa := by rw [hwa]; exact (Below.refl _ _).alloc (Nat.le_refl _) _
  have HA := Lib.hid hba
  have HWA := Lib.hid hwa
  clear hba hwa hR hok hE hs ht htr hz hzs e hl
  go_enter Tryd.func61, Tryd.ntmps61
  go_wp2_with fail
  rw [← HWA.out]
  go_wp2_with fail
  refine (HT.out _ HA.out).mono ?_
  rintro x w1 ⟨rfl, hb⟩
  have HB := Lib.hid (HA.out.trans (hb.mono HA.out.size))
  clear hb c0 c1
  go_wp2_with (first
    | (go_at_call 59; refine (text_any _).mono ?_; rintro y w3 ⟨rfl, hb3⟩; have HB3 := Lib.hid (HB.out.trans (hb3.mono HB.out.size)); clear hb3)
    | (go_at_call 91; refine (HTS.out _).mono ?_; rintro y w3 ⟨rfl, rfl⟩))
  go_ret
  exact ⟨retS HTR.out, HB3.out⟩

theorem holds_bytesRow {W : World} {g cap : Nat} {e : TypeId} {s : ByteArray} (h : W.heap[g]? = some (.cells (bytesRow s cap) e ((bytesRow s cap).size, (bytesRow s cap).size + 1))) : Holds encB W g 0 (byA s) := by
  intro j hj
  rw [byA_size] at hj
  have hd : s.data.size = s.size := rfl
  have hsz : s.size ≤ (bytesRow s cap).size := by
    have : (bytesRow s cap).size = s.data.size + (cap - s.size) := by simp [bytesRow]
    omega
  rw [Nat.zero_add, byA_get hj]
  constructor
  · rw [cell_of_row W g j _ _ _ h]
    rw [bytesRow, Array.getElem?_append_left (by simp; omega)]
    have e2 : s.data[j]? = some s.data[j]! := by rw [getElem!_pos s.data j (by omega)]; simp
    simp [byteN, e2, encB]
  · simp [World.frozen?, h]
    omega

set_option maxRecDepth 100000 in
set_option maxHeartbeats 2000000 in
theorem isWordOrder_any (b off cap : Nat) (d : Array CaseD) (rest : Int) (s : ByteArray) (w : World) (hR : RowC w b off d) (hE : ErrAt w) (hcap : d.size ≤ cap) (hmax : cap ≤ maxLen) (hs : s.size ≤ 1048576) :
    Calls Tryd.prog 56 #[.agg #[.slice (some ⟨b, off, none⟩) d.size cap, .int .i64 rest], .string s] w fun x w' => x = .returned (.bool (swB d rest && ordWB d s)) ∧ RowKit.Below w.heap.size w w' := by
  have hv := fun W (hW : RowKit.Below w.heap.size w W) => switchValid_any b off cap d rest W (hR.below hW) (hE.below hW) hcap hmax
  have HCT := Lib.hid (fun hok W (hW : RowKit.Below w.heap.size w W) => caseTargets_any b off cap d rest W (hR.below hW) (hE.below hW) hcap hmax hok)
  have hsi : (s.size : Int) ≤ 1048576 := by omega
  obtain ⟨wa, hwa⟩ : ∃ wa, wa = w.alloc (.cells #[.slice (some ⟨b, off, none⟩) d.size cap, .int .i64 rest] 32) := ⟨_, rfl⟩
  have c0 : wa.cell? ⟨w.heap.size, 0, none⟩ = some (.slice (some ⟨b, off, none⟩) d.size cap) := by rw [hwa]; simp
  have c1 : wa.cell? ⟨w.heap.size, 1, none⟩ = some (.int .i64 rest) := by rw [hwa]; simp
  have hz : w.heap.size < wa.heap.size := by rw [hwa]; simp
  have hba : RowKit.Below w.heap.size w wa := by rw [hwa]; exact (Below.refl _ _).alloc (Nat.le_refl _) _
  have HA := Lib.hid hba
  have C0 := Lib.hid c0
  have C1 := Lib.hid c1
  have HWA := Lib.hid hwa
  clear hba hwa hR hE
  cases hsw : swB d rest
  · rw [hsw] at hv
    have HV := Lib.hid hv
    clear hv
    go_enter Tryd.func56, Tryd.ntmps56
    go_wp2_with fail
    rw [← HWA.out]
    go_wp2_with fail
    refine (HV.out _ HA.out).mono ?_
    rintro x w1 ⟨rfl, hb⟩
    have HB := Lib.hid (HA.out.trans (hb.mono HA.out.size))
    clear hb c0 c1
    go_wp2_with fail
    go_ret
    exact ⟨rfl, HB.out⟩
  · rw [hsw] at hv
    have HV := Lib.hid hv
    have HOK := Lib.hid ((swB_iff _ _).1 hsw)
    clear hv hsw
    by_cases hlen : 8 < s.size
    · have hli : (8 : Int) < (s.size : Int) := by omega
      have HL := Lib.hid (ordW_long (d := d) hlen)
      clear hlen
      go_enter Tryd.func56, Tryd.ntmps56
      go_wp2_with fail
      rw [← HWA.out]
      go_wp2_with fail
      refine (HV.out _ HA.out).mono ?_
      rintro x w1 ⟨rfl, hb⟩
      have HB := Lib.hid (HA.out.trans (hb.mono HA.out.size))
      clear hb c0 c1
      go_wp2_with fail
      go_ret
      exact ⟨retB (by rw [HL.out]; rfl), HB.out⟩
    · have hli : ¬ (8 : Int) < (s.size : Int) := by omega
      have HCV := Lib.hid (fun W => run_bytes_of_string (P := Tryd.prog) W 9 112 5 s Tryd.underlying9 Tryd.underlying112 Tryd.underlying5)
      have HSZ := Lib.hid (show s.size ≤ 8 by omega)
      go_enter Tryd.func56, Tryd.ntmps56
      go_wp2_with fail
      rw [← HWA.out]
      go_wp2_with fail
      refine (HV.out _ HA.out).mono ?_
      rintro x w1 ⟨rfl, hb⟩
      have hz1 := hb.size
      have a0 := (hb.cell (p := ⟨w.heap.size, 0, none⟩) hz).trans C0.out
      have a1 := (hb.cell (p := ⟨w.heap.size, 1, none⟩) hz).trans C1.out
      have HBA := Lib.hid (show RowKit.Below wa.heap.size wa w1 from hb)
      clear hb c0 c1
      have hcv := HCV.out w1
      obtain ⟨gc, hgc⟩ : ∃ gc, gc = grownCap w1 s.size 0 5 := ⟨_, rfl⟩
      rw [← hgc] at hcv
      clear hgc
      go_wp2_with fail
      have hWh : ((w1.alloc (.cells (bytesRow s gc) 5 ((bytesRow s gc).size, (bytesRow s gc).size + 1))).drew).heap[w1.heap.size]? = some (.cells (bytesRow s gc) 5 ((bytesRow s gc).size, (bytesRow s gc).size + 1)) := World.alloc_heap_new w1 _
      have hWB : RowKit.Below wa.heap.size wa ((w1.alloc (.cells (bytesRow s gc) 5 ((bytesRow s gc).size, (bytesRow s gc).size + 1))).drew) := (HBA.out.alloc hz1 _).drew
      have hWZ : ((w1.alloc (.cells (bytesRow s gc) 5 ((bytesRow s gc).size, (bytesRow s gc).size + 1))).drew).heap.size = w1.heap.size + 1 := by simp [World.drew]
      generalize ((w1.alloc (.cells (bytesRow s gc) 5 ((bytesRow s gc).size, (bytesRow s gc).size + 1))).drew) = W2 at hWh hWB hWZ ⊢
      have hsort := sortB_any w1.heap.size gc (byA s) W2 (holds_bytesRow hWh) (by rw [byA_size]; have := HSZ.out; omega)
      rw [byA_size] at hsort
      refine hsort.mono ?_
      rintro x w3 ⟨rfl, hH3, hg3⟩
      have hB3 : RowKit.Below wa.heap.size wa w3 := hWB.grown hg3 (by omega) (fun q hq => by cases hq; omega)
      have z3 : w.heap.size < w3.heap.size := by have := hB3.size; omega
      have b0 := (hB3.cell (p := ⟨w.heap.size, 0, none⟩) hz).trans C0.out
      have b1 := (hB3.cell (p := ⟨w.heap.size, 1, none⟩) hz).trans C1.out
      have g3 : w1.heap.size < w3.heap.size := by have := hg3.size; omega
      obtain ⟨q, hq⟩ : ∃ q, q = insertionSort ltZ (byA s) 0 (byA s).size := ⟨_, rfl⟩
      have hqs : q.toList.length = s.size := by rw [hq, Array.length_toList, (sort_perm (byA s)).1, byA_size]
      have HTX := Lib.hid (ordW_text d s)
      rw [← hq] at hH3 HTX
      have HWW := Lib.hid (HA.out.trans (hB3.mono (by omega)))
      have hcb := fun p : BW w3 => bytes_string (W := p.W) (g := w1.heap.size) (cap := gc) q.toList (fun j v hj => by
        have hj' : j < q.size := by have := (List.getElem?_eq_some_iff.1 hj).1; simpa using this
        have := (hH3 j hj').1
        rw [Nat.zero_add] at this
        rw [p.cell (a := ⟨w1.heap.size, j, none⟩) g3 this]
        rw [← hj]
        simp [hj'])
      rw [hqs] at hcb
      have q0 := fun p : BW w3 => p.cell z3 b0
      have q1 := fun p : BW w3 => p.cell z3 b1
      have GC := Lib.hid fun p : BW w3 => HCT.out HOK.out p.W (HWW.out.trans (p.h.mono HWW.out.size))
      clear hq hqs hH3 hg3 hB3 hWh hWB hWZ hsort hcv b0 b1 a0 a1
      go_wp2_with fail
      refine wp_region_bw (by kernel_rfl) (by kernel_rfl) ?_
      repeat (go_big_quiet_step (with_reducible refine bw_of (GC.out _)))
      refine wpQuiet_nil ?_
      rintro _ ⟨⟨W', hBW⟩, rfl⟩
      have HBW := Lib.hid (HWW.out.trans (hBW.mono HWW.out.size))
      clear hBW
      go_wp2_with fail
      go_ret
      exact ⟨retB (by rw [HTX.out]; rfl), HBW.out⟩
end Go.Proofs.YtbhamkmiagdimaaDoor
