
/- LookPages of the model. -/
import Derived.Test.YtbbejkimgkpfkaaKsPgC
namespace Go.Proofs.Ytbbejkimgkpfkaa
open Go.RowKit Go.Sort Go.Shelf

set_option maxRecDepth 100000 in
set_option maxHeartbeats 2000000 in
theorem specPages_any (bp offp cp bx offx cx : Nat) (o : Array ByteArray) (x : Array Int) (key : Int) (w : World) (hP : RowT w bp offp o) (hX : RowN w bx offx x) (hn : o.size ≤ 1048576) (hxn : x.size ≤ 1048576) (hs : ∀ j, j < o.size → o[j]!.size ≤ 1048576) :
    Calls Try.prog 8 #[.slice (some ⟨bp, offp, none⟩) o.size cp, .slice (some ⟨bx, offx, none⟩) x.size cx, .int .i64 key] w fun y w' => y = .returned (.tuple #[.string (lookPS o x key), .bool (lookPB o x key)]) ∧ Below w.heap.size w w' := by
  have HP := Lib.hid hP
  have HX := Lib.hid hX
  have HS := Lib.hid hs
  have hmi : (o.size : Int) ≤ 1048576 := by omega
  have hxi : (x.size : Int) ≤ 1048576 := by omega
  have HN1 := Lib.hid (fun h => lookPB_no1 (o := o) (x := x) (key := key) h)
  have HN2 := Lib.hid (fun h => lookPB_no2 (o := o) (x := x) (key := key) h)
  have HN3 := Lib.hid (fun h => lookPB_no3 (o := o) (x := x) (key := key) h)
  have HPN := Lib.hid (fun h => pgB_no (o := o) h)
  have HIN := Lib.hid (fun h => ixB_no (o := o) (x := x) h)
  clear hP hX hs
  by_cases h0 : o.size = 0
  · have h0i : ((o.size : Int) == 0) = true := by simp [h0]
    have HN := Lib.hid (HN1.out (HPN.out (fun h => by omega)))
    clear h0
    go_enter Try.func8, Try.ntmps8
    go_wp2_with fail
    go_ret2
    exact ⟨ret2u (lookPS_no HN.out).symm HN.out.symm, Below.refl _ _⟩
  · have h1 : 0 < o.size := by omega
    have h0p : (0 : Int) < (o.size : Int) := by omega
    have h0i : ¬ (o.size : Int) = 0 := by omega
    have h0b : ((o.size : Int) == 0) = false := by simpa using h0i
    have p0 := HP.out.cell 0 h1
    rw [Nat.add_zero] at p0
    have hz := HS.out 0 h1
    obtain ⟨s0, hs0⟩ : ∃ s0, s0 = o[0]! := ⟨_, rfl⟩
    rw [← hs0] at p0 hz HPN HIN
    have HS0 := Lib.hid hs0
    have hsi : (s0.size : Int) ≤ 1048576 := by omega
    have hsz := fun W => l6Size_any (s0.size : Int) W
    clear h0 h0i hz hs0
    cases q1 : sizeB (s0.size : Int)
    · rw [q1] at hsz
      have HZ := Lib.hid hsz
      have HN := Lib.hid (HN1.out (HPN.out (fun h => by rw [q1] at h; exact Bool.false_ne_true h.2.1)))
      clear hsz q1
      go_enter Try.func8, Try.ntmps8
      go_wp2_with (go_at_call 20; refine (HZ.out _).mono ?_; rintro y w2 ⟨rfl, rfl⟩)
      go_ret2
      exact ⟨ret2u (lookPS_no HN.out).symm HN.out.symm, Below.refl _ _⟩
    · rw [q1] at hsz
      have HZ := Lib.hid hsz
      have hs32 := sizeB_le q1
      have HQ1 := Lib.hid q1
      clear hsz q1
      have hmle : x.size * s0.size ≤ 1048576 * 32 := Nat.mul_le_mul hxn hs32.2
      obtain ⟨n, hne⟩ : ∃ n, n = x.size * s0.size := ⟨_, rfl⟩
      have hmul : (x.size : Int) * (s0.size : Int) = (n : Int) := by rw [hne]; simp
      rw [← hne] at hmle HIN
      have HNE := Lib.hid hne
      have hni : (n : Int) ≤ 33554432 := by omega
      clear hne hmle
      by_cases h2 : n = 32
      · subst h2
        have hk := fun W => l1KeyU_any key W
        cases q3 : keyB key
        · rw [q3] at hk
          have HK := Lib.hid hk
          have HN := Lib.hid (HN3.out q3)
          clear hk q3
          go_enter Try.func8, Try.ntmps8
          go_wp2_with (first
            | (go_at_call 20; refine (HZ.out _).mono ?_; rintro y w2 ⟨rfl, rfl⟩)
            | (go_at_call 15; refine (HK.out _).mono ?_; rintro y w2 ⟨rfl, rfl⟩))
          go_ret2
          exact ⟨ret2u (lookPS_no HN.out).symm HN.out.symm, Below.refl _ _⟩
        · rw [q3] at hk
          have HK := Lib.hid hk
          have HQ3 := Lib.hid q3
          clear hk q3
          go_enter Try.func8, Try.ntmps8
          go_wp2_with (first
            | (go_at_call 20; refine (HZ.out _).mono ?_; rintro y w2 ⟨rfl, rfl⟩)
            | (go_at_call 15; refine (HK.out _).mono ?_; rintro y w2 ⟨rfl, rfl⟩))
          go_loop [42] (fun i => ∃ k : Nat, i = .int .i64 k ∧ k ≤ o.size ∧ Hid (∀ j, j < k → allT o[j]! = true ∧ o[j]!.size = s0.size)) (fun i => o.size - (RowKit.intOf i).toNat)
          case atStart => exact ⟨0, rfl, Nat.zero_le _, fun j hj => absurd hj (Nat.not_lt_zero _)⟩
          case round =>
            obtain ⟨k, rfl, hk, HJ⟩ := hrel
            by_cases hlt : k < o.size
            · have hki : (k : Int) < (o.size : Int) := by omega
              have y1 := HP.out.cell k hlt
              have hsk := HS.out k hlt
              have HNK := Lib.hid (fun (h : ¬ (allT o[k]! = true ∧ o[k]!.size = s0.size)) => HN1.out (HPN.out (fun hh => h (hh.2.2 k hlt))))
              obtain ⟨s, hse⟩ : ∃ s, s = o[k]! := ⟨_, rfl⟩
              rw [← hse] at y1 hsk HNK
              have XE := Lib.hid hse
              have hski : (s.size : Int) ≤ 1048576 := by omega
              have ht := fun W => l6Targets_any s W hsk
              clear hse
              cases q2 : allT s
              · rw [q2] at ht
                have HT := Lib.hid ht
                have HN := Lib.hid (HNK.out (fun h => by rw [q2] at h; exact Bool.false_ne_true h.1))
                clear ht q2
                go_wp2_with (go_at_call 14; refine (HT.out _).mono ?_; rintro y w2 ⟨rfl, rfl⟩)
                go_ret2
                exact ⟨ret2u (lookPS_no HN.out).symm HN.out.symm, Below.refl _ _⟩
              · rw [q2] at ht
                have HT := Lib.hid ht
                have HAL := Lib.hid q2
                clear ht q2
                by_cases q3 : s.size = s0.size
                · have q3c : ((s.size : Int) != (s0.size : Int)) = false := by simp [q3]
                  have q3b : ((s.size : Int) == (s0.size : Int)) = true := by simp [q3]
                  have Q3 := Lib.hid q3
                  clear q3
                  go_wp2_with (go_at_call 14; refine (HT.out _).mono ?_; rintro y w2 ⟨rfl, rfl⟩)
                  go_round
                  case rel =>
                    refine ⟨k + 1, by go_num, by omega, fun j hj => ?_⟩
                    by_cases e : j = k
                    · subst e; rw [← XE.out]; exact ⟨HAL.out, Q3.out⟩
                    · exact HJ.out j (by omega)
                  case measure => simp [RowKit.intOf]; omega
                · have q3c : ((s.size : Int) != (s0.size : Int)) = true := by simp; omega
                  have q3b : ((s.size : Int) == (s0.size : Int)) = false := by simp; omega
                  have HN := Lib.hid (HNK.out (fun h => q3 h.2))
                  clear q3
                  go_wp2_with (go_at_call 14; refine (HT.out _).mono ?_; rintro y w2 ⟨rfl, rfl⟩)
                  go_ret2
                  exact ⟨ret2u (lookPS_no HN.out).symm HN.out.symm, Below.refl _ _⟩
            · have hki : ¬ (k : Int) < (o.size : Int) := by omega
              have HPY := Lib.hid ((pgB_iff o).2 (by rw [← HS0.out]; exact ⟨h1, HQ1.out, fun j hj => HJ.out j (by omega)⟩))
              go_wp2_with fail
              go_loop [61] (fun i => ∃ k : Nat, i = .int .i64 k ∧ k ≤ x.size ∧ Hid (∀ j, j < k → 0 ≤ x[j]! ∧ x[j]! < o.size)) (fun i => x.size - (RowKit.intOf i).toNat)
              case atStart => exact ⟨0, rfl, Nat.zero_le _, fun j hj => absurd hj (Nat.not_lt_zero _)⟩
              case round =>
                obtain ⟨k, rfl, hk, HJ2⟩ := hrel
                by_cases hlt : k < x.size
                · have hki : (k : Int) < (x.size : Int) := by omega
                  have y1 := HX.out.cell k hlt
                  have HNK := Lib.hid (fun (h : ¬ (0 ≤ x[k]! ∧ x[k]! < o.size)) => HN2.out (HIN.out (fun hh => h (hh.2 k hlt))))
                  obtain ⟨v, hve⟩ : ∃ v, v = x[k]! := ⟨_, rfl⟩
                  rw [← hve] at y1 HNK
                  have XE := Lib.hid hve
                  have hin := fun W => l1In_any v 0 ((o.size : Int) - 1) W
                  clear hve
                  cases q4 : inB v 0 ((o.size : Int) - 1)
                  · rw [q4] at hin
                    have HI := Lib.hid hin
                    have HN := Lib.hid (HNK.out (fun h => by simp [inB] at q4; omega))
                    clear hin q4
                    go_wp2_with (go_at_call 21; refine (HI.out _).mono ?_; rintro y w2 ⟨rfl, rfl⟩)
                    go_ret2
                    exact ⟨ret2u (lookPS_no HN.out).symm HN.out.symm, Below.refl _ _⟩
                  · rw [q4] at hin
                    have HI := Lib.hid hin
                    have HV := Lib.hid (show 0 ≤ v ∧ v < o.size by simp [inB] at q4; omega)
                    clear hin q4
                    go_wp2_with (go_at_call 21; refine (HI.out _).mono ?_; rintro y w2 ⟨rfl, rfl⟩)
                    go_round
                    case rel =>
                      refine ⟨k + 1, by go_num, by omega, fun j hj => ?_⟩
                      by_cases e : j = k
                      · subst e; rw [← XE.out]; exact HV.out
                      · exact HJ2.out j (by omega)
                    case measure => simp [RowKit.intOf]; omega
                · have hki2 : ¬ (k : Int) < (x.size : Int) := by omega
                  have HIY := Lib.hid ((ixB_iff o x).2 (by rw [← HS0.out]; exact ⟨HNE.out.symm, fun j hj => HJ2.out j (by omega)⟩))
                  obtain ⟨k0, k1⟩ : 0 ≤ key ∧ key ≤ 31 := by simpa [keyB] using HQ3.out
                  obtain ⟨kk, rfl⟩ : ∃ kk : Nat, key = kk := ⟨key.toNat, by omega⟩
                  obtain ⟨sz, q, i, hok⟩ := pgOK_of HPY.out HIY.out (k := kk) (by omega)
                  have HYES := Lib.hid (show lookPB o x (kk : Int) = true by simp [lookPB, HPY.out, HIY.out, HQ3.out])
                  have HRES := Lib.hid (show lookPS o x (kk : Int) = (o[i]!).extract (kk % sz) (kk % sz + 1) by rw [lookPS, if_pos HYES.out, Int.toNat_natCast, hok.page, hok.s0])
                  have hss : s0.size = sz := by rw [HS0.out]; exact hok.s0
                  have hq : (q : Int) < (x.size : Int) := by have := hok.q1; omega
                  have hii : (i : Int) < (o.size : Int) := by have := hok.i1; omega
                  have e1 : (kk : Int) / (sz : Int) = (q : Int) := by rw [hok.q0]; rfl
                  have e4 : (kk : Int).tdiv (sz : Int) = (q : Int) := by rw [hok.q0]; rfl
                  obtain ⟨m, hm⟩ : ∃ m : Nat, m = kk % sz := ⟨_, rfl⟩
                  have e2 : (kk : Int) % (sz : Int) = (m : Int) := by rw [hm]; rfl
                  have e3 : (kk : Int).tmod (sz : Int) = (m : Int) := by rw [hm]; rfl
                  rw [← hm] at HRES
                  have hsz1 : (0 : Int) < (sz : Int) := by have := hok.s1; omega
                  have hsz2 : (sz : Int) ≤ 32 := by have := hok.s2; omega
                  have hsz0 : ¬ (sz : Int) = 0 := by omega
                  have hq31 : (q : Int) ≤ 1048576 := by omega
                  have hmz : m < sz := by rw [hm]; exact Nat.mod_lt _ hok.s1
                  have Q0 := HX.out.cell q hok.q1
                  have Pi := HP.out.cell i hok.i1
                  rw [hok.i0] at Q0
                  have hps := hok.psz
                  obtain ⟨pg, hpg⟩ : ∃ pg, pg = o[i]! := ⟨_, rfl⟩
                  rw [← hpg] at Pi HRES hps
                  have hpi : (m : Int) + 1 ≤ (pg.size : Int) := by omega
                  have hpi2 : (m : Int) ≤ (pg.size : Int) := by omega
                  have hpi3 : (m : Int) ≤ (m : Int) + 1 := by omega
                  have hpi4 : (m : Int) < 32 := by omega
                  clear hok hpg hm
                  subst hss
                  go_wp2_with fail
                  go_quiet (fail)
                  go_wp2_with fail
                  go_ret2
                  exact ⟨ret2u HRES.out.symm HYES.out.symm, below_drewN (Below.refl _ _) _⟩
      · have h2b : ((n : Int) == 32) = false := by simp; omega
        have h2c : ((n : Int) != 32) = true := by simp; omega
        have HN := Lib.hid (HN2.out (HIN.out (fun h => h2 h.1)))
        clear h2
        go_enter Try.func8, Try.ntmps8
        go_wp2_with (go_at_call 20; refine (HZ.out _).mono ?_; rintro y w2 ⟨rfl, rfl⟩)
        go_ret2
        exact ⟨ret2u (lookPS_no HN.out).symm HN.out.symm, Below.refl _ _⟩
end Go.Proofs.Ytbbejkimgkpfkaa
