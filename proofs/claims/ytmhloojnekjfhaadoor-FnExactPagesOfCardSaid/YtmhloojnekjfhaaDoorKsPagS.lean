
/- The model's l6Pages. -/
import Derived.Test.YtmhloojnekjfhaaDoorKsPagP
import Derived.Test.YtmhloojnekjfhaaDoorKsTabS
import Derived.Test.YtmhloojnekjfhaaDoorKsFlow
import Derived.Test.YtmhloojnekjfhaaDoorKsRowN
namespace Go.Proofs.YtmhloojnekjfhaaDoor
open Go.RowKit Go.Shelf Go.Lib Go.Sort

def encS (s : ByteArray) : Value := .string s
/-- A slice of texts that a call has made. -/
def OwnsT (base : Nat) (v : Value) (l : List ByteArray) (w : World) : Prop := w.ownsRow base 9 1 v l.length (l.map encS)
theorem ownsT_form {base : Nat} {v : Value} {l : List ByteArray} {w : World} (h : OwnsT base v l w) : ∃ p c, v = .slice p l.length c ∧ ∀ k, k < l.length → ∃ g, p = some ⟨g, 0, none⟩ ∧ w.cell? ⟨g, k, none⟩ = some (.string l[k]!) := by
  have h' := h
  rcases h.2 with ⟨h0, h1⟩ | ⟨g, cap, cur, h0, hb, hh, h3⟩
  · exact ⟨none, 0, by rw [h0, h1], fun k hk => by omega⟩
  · subst h0
    refine ⟨_, cap, rfl, fun k hk => ⟨g, rfl, ?_⟩⟩
    unfold OwnsT at h'
    rw [World.ownsRow.cellAt h' k (by simpa using hk)]
    simp [encS, hk]
theorem ownsT_cell {base n c : Nat} {p : Option Addr} {l : List ByteArray} {w : World} (h : OwnsT base (.slice p n c) l w) {k : Nat} (hk : k < l.length) : ∃ g, p = some ⟨g, 0, none⟩ ∧ w.cell? ⟨g, k, none⟩ = some (.string l[k]!) := by
  obtain ⟨p', c', e, h'⟩ := ownsT_form h
  simp only [Value.slice.injEq] at e
  rw [e.1]
  exact h' k hk
theorem infoStr : (Tryd.prog.info? 9).map (fun i => (i.zero, i.size, i.bytes)) = some (some (.string ⟨#[]⟩), 1, 16) := by kernel_rfl
theorem infoInt : (Tryd.prog.info? 3).map (fun i => (i.zero, i.size, i.bytes)) = some (some (.int .i64 0), 1, 8) := by kernel_rfl
theorem cell1At {W : World} {b : Nat} {v : Value} (hc : W.cell? ⟨b, 0, none⟩ = some v) : ∀ j u, [v][j]? = some u → W.cell? ((⟨b, 0, none⟩ : Addr).add j) = some u := by
  intro j u hj
  match j, hj with
  | 0, hj => simp at hj; subst hj; simpa [Addr.add] using hc
theorem text_ne {x p : ByteArray} (h : ¬ x = p) : (x.toList == p.toList) = false := by
  rw [beq_eq_false_iff_ne]
  intro e
  rw [ByteArray.toList_eq, ByteArray.toList_eq] at e
  exact h (ByteArray.ext (Array.ext' e))
/-- Two rows in different blocks. -/
def Ap (u v : Value) : Prop := ∀ g, ¬ (u.ownBlock = some g ∧ v.ownBlock = some g)
theorem Ap.symm {u v : Value} (h : Ap u v) : Ap v u := fun g ⟨a, b⟩ => h g ⟨b, a⟩
theorem Ap.kept {u v : Value} (h : Ap u v) : v.ownBlock = none ∨ v.ownBlock ≠ u.ownBlock := by
  cases hq : v.ownBlock with
  | none => exact .inl rfl
  | some g => exact .inr fun e => h g ⟨e.symm, hq⟩
theorem Ap.grow {u u' v : Value} {z : Nat} {w : World} {base size n : Nat} {e : TypeId} {xs : List Value} (h : Ap u v) (hat : u'.ownBlock = u.ownBlock ∨ u'.ownBlock = some z) (hv : w.ownsRow base e size v n xs) (hz : w.heap.size ≤ z) : Ap u' v := fun g ⟨a, b⟩ => by
  rcases hat with h1 | h1
  · exact h g ⟨h1.symm.trans a, b⟩
  · have := (hv.lt g b).2
    rw [h1] at a
    have := Option.some.inj a
    omega

set_option maxRecDepth 100000 in
set_option maxHeartbeats 4000000 in
theorem l6Pages_any (b off cap : Nat) (d : Array CaseD) (rest : Int) (sz n : Nat) (w : World) (hR : RowC w b off d) (hok : SwOK d rest) (hsz : sz * n = 32) :
    Calls Tryd.prog 39 #[.agg #[.slice (some ⟨b, off, none⟩) d.size cap, .int .i64 rest], .int .i64 sz] w fun x w' =>
      ∃ v u, x = .returned (.tuple #[v, u]) ∧ OwnsT w.heap.size v (pagesTo d sz n) w' ∧ w'.ownsRow w.heap.size 3 1 u n ((indexTo d sz n).map encN) ∧ RowKit.Below w.heap.size w w' := by
  have HR := Lib.hid hR
  have HT := Lib.hid (fun (lo m : Nat) (hi : Int) (h1 : hi + 1 = lo + m) (h2 : hi ≤ 31) W (hW : RowKit.Below w.heap.size w W) => l6Table_any b off cap d rest hi lo m W (hR.below hW) hok h1 h2)
  obtain ⟨i0, hi, hi0, hi1, hi2⟩ := info_parts infoStr
  obtain ⟨i1, hj, hj0, hj1, hj2⟩ := info_parts infoInt
  have hn0 : 0 < n := by
    rcases Nat.eq_zero_or_pos n with h | h
    · rw [h] at hsz; omega
    · exact h
  have hsz0 : 0 < sz := by
    rcases Nat.eq_zero_or_pos sz with h | h
    · rw [h] at hsz; omega
    · exact h
  have hsz32 : sz ≤ 32 := Nat.le_of_dvd (by decide) ⟨n, hsz.symm⟩
  have hn32 : n ≤ 32 := Nat.le_of_dvd (by decide) ⟨sz, by rw [Nat.mul_comm]; exact hsz.symm⟩
  have HSZ := Lib.hid hsz
  obtain ⟨wa, hwa⟩ : ∃ wa, wa = w.alloc (.cells #[.slice (some ⟨b, off, none⟩) d.size cap, .int .i64 rest] 25) := ⟨_, rfl⟩
  have HC0 := Lib.hid (show wa.cell? ⟨w.heap.size, 0, none⟩ = some (.slice (some ⟨b, off, none⟩) d.size cap) by rw [hwa]; simp)
  have HC1 := Lib.hid (show wa.cell? ⟨w.heap.size, 1, none⟩ = some (.int .i64 rest) by rw [hwa]; simp)
  have hzae : wa.heap.size = w.heap.size + 1 := by rw [hwa]; simp
  have hza : w.heap.size < wa.heap.size := by omega
  have HA := Lib.hid (show RowKit.Below w.heap.size w wa by rw [hwa]; exact (Below.refl _ _).alloc (Nat.le_refl _) _)
  have HWA := Lib.hid hwa
  clear hwa hR hok hsz
  go_enter Tryd.func39, Tryd.ntmps39
  go_wp2_with fail
  rw [← HWA.out]
  go_loopw [6, 7, 8] (fun v u i wr => ∃ j : Nat, i = .int .i64 ((sz * j : Nat) : Int) ∧ j ≤ n ∧ Hid (OwnsT wa.heap.size v (pagesTo d sz j) wr) ∧ Hid (wr.ownsRow wa.heap.size 3 1 u j ((indexTo d sz j).map encN)) ∧ Hid (Ap u v) ∧ Hid (RowKit.Below wa.heap.size wa wr) ∧ wa.heap.size ≤ wr.heap.size) (fun _ _ i _ => 32 - (RowKit.intOf i).toNat)
  case atStart =>
    rw [← hzae]
    refine ⟨0, by simp, Nat.zero_le _, ?_, ?_, ?_, ((Below.refl _ _).alloc (Nat.le_refl _) _).alloc (by simp) _, by simp; omega⟩
    · exact (World.ownsRow_made wa #[] 0 (Nat.le_refl _) (Nat.zero_le _) (by simp)).alloc _
    · have h := World.ownsRow_made (base := wa.heap.size) (e := 3) (size := 1) (wa.alloc (.cells #[] 9)) #[] 0 (by simp) (Nat.zero_le _) rfl
      rw [World.size_alloc] at h
      exact h
    · exact fun g ⟨a, b⟩ => by
        simp [Value.ownBlock] at a b
        omega
  case round =>
    obtain ⟨j, rfl, hjn, HV, HU, HVU, HW, hwz⟩ := hrel
    have HWW := Lib.hid (HA.out.trans (HW.out.mono (Nat.le_of_lt hza)))
    have a0 := (HW.out.cell (p := ⟨w.heap.size, 0, none⟩) hza).trans HC0.out
    have a1 := (HW.out.cell (p := ⟨w.heap.size, 1, none⟩) hza).trans HC1.out
    have hLl := pagesTo_length d sz j
    by_cases hlt : j < n
    · have hm : sz * j + sz ≤ 32 := by
        have := Nat.mul_le_mul_left sz (show j + 1 ≤ n by omega)
        rw [Nat.mul_succ, HSZ.out] at this
        exact this
      have HNX := Lib.hid (show ((sz * (j + 1) : Nat) : Int) = ((sz * j : Nat) : Int) + (sz : Int) by rw [Nat.mul_succ]; simp)
      have HP1 := Lib.hid (show pagesTo d sz (j + 1) = addP (pagesTo d sz j) (tabS d (sz * j) sz) from rfl)
      have HI1 := Lib.hid (show indexTo d sz (j + 1) = indexTo d sz j ++ [(placeOf (pagesTo d sz j) (tabS d (sz * j) sz) : Int)] from rfl)
      have hil := indexTo_length d sz j
      have HCT := Lib.hid (HT.out (sz * j) sz (((sz * j : Nat) : Int) + (sz : Int) - 1) (by omega) (by omega) wr HWW.out)
      obtain ⟨L, hL⟩ : ∃ L, L = pagesTo d sz j := ⟨_, rfl⟩
      obtain ⟨I, hI⟩ : ∃ I, I = indexTo d sz j := ⟨_, rfl⟩
      obtain ⟨p, hp⟩ : ∃ p, p = tabS d (sz * j) sz := ⟨_, rfl⟩
      rw [← hL, ← hp] at HP1
      rw [← hL, ← hp, ← hI] at HI1
      rw [← hL] at HV hLl
      rw [← hI] at HU hil
      rw [← hp] at HCT
      obtain ⟨lo, hlo⟩ : ∃ lo, lo = sz * j := ⟨_, rfl⟩
      rw [← hlo] at hm HNX HCT ⊢
      have HLO := Lib.hid hlo
      have hlo31 : (lo : Int) ≤ 31 := by omega
      have hsi : (sz : Int) ≤ 32 := by omega
      obtain ⟨pv, cv, rfl, _⟩ := ownsT_form HV.out
      have hL32 : (L.length : Int) ≤ 32 := by omega
      clear hL hI hp hlo
      go_wp2_with (go_at_call 71; refine HCT.out.mono ?_; rintro _ w2 ⟨rfl, hb2⟩; have HV2 := Lib.hid (show OwnsT _ _ _ _ from owns_below HV.out hb2); have HU2 := Lib.hid (owns_below HU.out hb2); have HW2 := Lib.hid (HW.out.trans (hb2.mono hwz)); have hz2 := hb2.size; clear hb2)
      go_loop [10] (fun i => ∃ k : Nat, i = .int .i64 k ∧ k ≤ L.length ∧ Hid (∀ q, q < k → L[q]! ≠ p)) (fun i => L.length - (RowKit.intOf i).toNat)
      case atStart => exact ⟨0, rfl, Nat.zero_le _, fun q hq => absurd hq (Nat.not_lt_zero _)⟩
      case round =>
        obtain ⟨k, rfl, hk, HQ⟩ := hrel
        by_cases hkl : k < L.length
        · have hki : (k : Int) < (L.length : Int) := by omega
          obtain ⟨g, rfl, c0⟩ := ownsT_cell HV2.out hkl
          obtain ⟨x, hx⟩ : ∃ x, x = L[k]! := ⟨_, rfl⟩
          rw [← hx] at c0
          have HX := Lib.hid hx
          clear hx
          by_cases hq : x = p
          · subst hq
            go_wp2_with (at_builtin; refine wpList_append_at _ rfl (.tmp 47) (.tmp 49) 29 rfl wa.heap.size 3 i1 (.int .i64 0) 1 8 Tryd.underlying29 hj hj0 hj1 hj2 rfl (by decide) _ _ _ rfl (World.ownsRow.alloc HU2.out _) ⟨w2.heap.size, 0, none⟩ 1 1 [.int .i64 (k : Nat)] rfl rfl (cell1At (by simp [go_sem])) (fun u hu => by simp at hu; subst hu; rfl) (by unfold maxLen; omega) (by omega) (by simp; omega) (by decide) ?_)
            intro u1 w3 hown3 hgrow3 hat3
            have HPL := Lib.hid (show placeOf L x = k from placeOf_is (by omega) HQ.out (fun _ => HX.out.symm))
            rw [HPL.out] at HI1
            rw [addP_old (by rw [HPL.out]; exact hkl)] at HP1
            have HV3 := Lib.hid (show OwnsT _ _ _ _ from World.ownsRow.kept (World.ownsRow.alloc HV2.out _) hgrow3 HVU.out.kept)
            have HU3 := Lib.hid (show w3.ownsRow wa.heap.size 3 1 u1 (j + 1) ((indexTo d sz (j + 1)).map encN) by rw [HI1.out, List.map_append, hzae]; exact hown3)
            have HB3 := Lib.hid (below_append HW2.out (by omega) hgrow3 HU2.out (Nat.le_refl _))
            have HAP := Lib.hid (HVU.out.grow hat3 HV2.out (by simp))
            have hz3 := hgrow3.size
            simp only [World.size_alloc] at hz3
            clear hown3 hgrow3 hat3
            go_wp2_with fail
            go_roundw
            case rel => exact ⟨j + 1, by rw [HNX.out], by omega, by rw [HP1.out]; exact HV3, HU3, HAP, HB3, by omega⟩
            case measure => have := HLO.out; simp [RowKit.intOf]; omega
          · have hq1 := text_ne hq
            go_wp2_with fail
            go_round
            case rel =>
              refine ⟨k + 1, by go_num, by omega, fun q hq3 => ?_⟩
              by_cases e : q = k
              · subst e; rw [← HX.out]; exact hq
              · exact HQ.out q (by omega)
            case measure => simp [RowKit.intOf]; omega
        · have hki : ¬ (k : Int) < (L.length : Int) := by omega
          obtain rfl : k = L.length := by omega
          have HPL := Lib.hid (show placeOf L p = L.length from placeOf_is (Nat.le_refl _) HQ.out (fun h => absurd h (Nat.lt_irrefl _)))
          rw [HPL.out] at HI1
          rw [addP_new HPL.out] at HP1
          go_wp2_with (at_builtin; refine wpList_append_at _ rfl (.tmp 43) (.tmp 45) 28 rfl wa.heap.size 9 i0 (.string ⟨#[]⟩) 1 16 Tryd.underlying28 hi hi0 hi1 hi2 rfl (by decide) _ _ _ rfl (World.ownsRow.alloc HV2.out _) ⟨w2.heap.size, 0, none⟩ 1 1 [.string p] rfl rfl (cell1At (by simp [go_sem])) (fun u hu => by simp at hu; subst hu; rfl) (by unfold maxLen; omega) (by omega) (by simp; omega) (by decide) ?_)
          intro v1 w3 hown3 hgrow3 hat3
          have HV3 := Lib.hid (show OwnsT wa.heap.size v1 (L ++ [p]) w3 by
            unfold OwnsT
            rw [List.length_append, List.map_append, hzae]
            exact hown3)
          have HU3 := Lib.hid (World.ownsRow.kept (World.ownsRow.alloc HU2.out _) hgrow3 HVU.out.symm.kept)
          have HB3 := Lib.hid (below_append HW2.out (by omega) hgrow3 HV2.out (Nat.le_refl _))
          have HAP := Lib.hid (HVU.out.symm.grow hat3 HU2.out (by simp)).symm
          have hz3 := hgrow3.size
          simp only [World.size_alloc] at hz3
          clear hown3 hgrow3 hat3
          go_wp2_with (at_builtin; refine wpList_append_at _ rfl (.tmp 47) (.tmp 49) 29 rfl wa.heap.size 3 i1 (.int .i64 0) 1 8 Tryd.underlying29 hj hj0 hj1 hj2 rfl (by decide) _ _ _ rfl (World.ownsRow.alloc HU3.out _) ⟨w3.heap.size, 0, none⟩ 1 1 [.int .i64 (L.length : Nat)] rfl rfl (cell1At (by simp [go_sem])) (fun u hu => by simp at hu; subst hu; rfl) (by unfold maxLen; omega) (by omega) (by simp; omega) (by decide) ?_)
          intro u1 w4 hown4 hgrow4 hat4
          have HV4 := Lib.hid (show OwnsT _ _ _ _ from World.ownsRow.kept (World.ownsRow.alloc HV3.out _) hgrow4 HAP.out.kept)
          have HU4 := Lib.hid (show w4.ownsRow wa.heap.size 3 1 u1 (j + 1) ((indexTo d sz (j + 1)).map encN) by rw [HI1.out, List.map_append, hzae]; exact hown4)
          have HB4 := Lib.hid (below_append HB3.out (by omega) hgrow4 HU3.out (Nat.le_refl _))
          have HAP4 := Lib.hid (HAP.out.grow hat4 HV3.out (by simp))
          have hz4 := hgrow4.size
          simp only [World.size_alloc] at hz4
          clear hown4 hgrow4 hat4
          go_wp2_with fail
          go_roundw
          case rel => exact ⟨j + 1, by rw [HNX.out], by omega, by rw [HP1.out]; exact HV4, HU4, HAP4, HB4, by omega⟩
          case measure => have := HLO.out; simp [RowKit.intOf]; omega
    · have hjn2 : j = n := by omega
      have hki : ¬ ((sz * j : Nat) : Int) ≤ 31 := by rw [hjn2, HSZ.out]; decide
      obtain ⟨lo, hlo⟩ : ∃ lo, lo = sz * j := ⟨_, rfl⟩
      rw [← hlo] at hki ⊢
      clear hlo
      subst hjn2
      go_wp2_with fail
      go_ret2
      exact ⟨_, _, rfl, owns_base HV.out (Nat.le_of_lt hza), owns_base HU.out (Nat.le_of_lt hza), HWW.out⟩
end Go.Proofs.YtmhloojnekjfhaaDoor
