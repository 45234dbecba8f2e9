/- WorstChain of the program. -/
import Derived.Test.YthchhgjnelkmhaaDoorKsRangeC
import Derived.Test.YthchhgjnelkmhaaDoorKsWorstM
import Derived.Test.YthchhgjnelkmhaaDoorKsCostC
namespace Go.Proofs.YthchhgjnelkmhaaDoor
open Go.RowKit Go.Shelf Go.Lib Go.Sort

attribute [local go_sem] Oper.semAt_some

/-- What is held ahead of a chain, and behind it: the best so far, and what it costs. -/
def PreB (d : Array CaseD) (rest : Int) (c : Array Int) (L : List Int) (m : Int) : Prop :=
  (m = -1 ∧ L = [] ∧ c = upTo d.size) ∨ ∃ c0 s, OrdOK d.size c0 ∧ NextOf d.size c0 c ∧ BestUpTo d rest (fun p => ¬ lexLt d.size c0 p) s ∧ ¬ lexLt d.size c0 s ∧ L = s.toList ∧ m = costN d rest s
def PostB (d : Array CaseD) (rest : Int) (c : Array Int) (L : List Int) (m : Int) : Prop :=
  ∃ s, BestUpTo d rest (fun p => ¬ lexLt d.size c p) s ∧ ¬ lexLt d.size c s ∧ L = s.toList ∧ m = costN d rest s
theorem preB_take {d : Array CaseD} {rest : Int} {c : Array Int} {L : List Int} {m : Int} (h : PreB d rest c L m) (hc : OrdOK d.size c) (hm : m < costN d rest c) : PostB d rest c c.toList (costN d rest c) := by
  rcases h with ⟨_, _, rfl⟩ | ⟨c0, s, h0, hn, hb, hl, _, rfl⟩
  · refine ⟨_, best_first hc fun p hp => ?_, fun h => lexLt_irrefl h, rfl, rfl⟩
    rcases asc_least (k := 0) hc hp (fun j hj => absurd hj (Nat.not_lt_zero j)) (fun i j _ h1 h2 => by rw [upTo_get h2, upTo_get (by omega)]; omega) with h | h
    · exact .inl h.symm
    · exact .inr h
  · have hst := best_step h0 hn hb hl
    rw [if_pos hm] at hst
    exact ⟨c, hst, fun h => lexLt_irrefl h, rfl, rfl⟩
theorem preB_skip {d : Array CaseD} {rest : Int} {c : Array Int} {L : List Int} {m : Int} (h : PreB d rest c L m) (hm : ¬ m < costN d rest c) (hc0 : 0 ≤ costN d rest c) : PostB d rest c L m := by
  rcases h with ⟨rfl, _, _⟩ | ⟨c0, s, h0, hn, hb, hl, rfl, rfl⟩
  · omega
  · have hst := best_step h0 hn hb hl
    have hsd := side_step hn hl (costN d rest s < costN d rest c)
    rw [if_neg hm] at hst hsd
    exact ⟨s, hst, hsd, rfl, rfl⟩
theorem postB_next {d : Array CaseD} {rest : Int} {c r : Array Int} {L : List Int} {m : Int} (h : PostB d rest c L m) (hc : OrdOK d.size c) (hn : NextOf d.size c r) : PreB d rest r L m := by
  obtain ⟨s, h1, h2, h3, h4⟩ := h
  exact .inr ⟨c, s, hc, hn, h1, h2, h3, h4⟩
theorem postB_last {d : Array CaseD} {rest : Int} {c : Array Int} {L : List Int} {m : Int} (h : PostB d rest c L m) (hc : OrdOK d.size c) (hd : ∀ i j, i < j → j < d.size → c[j]! < c[i]!) : L = (slowO d).toList := by
  obtain ⟨s, h1, h2, h3, h4⟩ := h
  rw [h3, best_last hc hd h1]
  rfl

theorem owns_slice {w : World} {base : Nat} {e : TypeId} {size : Nat} {v : Value} {n : Nat} {xs : List Value} (h : w.ownsRow base e size v n xs) : ∃ a k c, v = .slice a k c := by
  rcases h.2 with ⟨rfl, _⟩ | ⟨g, cap, cur, rfl, _⟩
  · exact ⟨_, _, _, rfl⟩
  · exact ⟨_, _, _, rfl⟩

/-- The loop's two boxes and the row; what lay before lies as it did. -/
structure WSt (h : Nat) (w1 : World) (v : Value) (L : List Int) (m : Int) (W : World) : Prop where
  bx : Boxed W h 53 v
  by' : Boxed W (h + 1) 3 (.int .i64 m)
  own : OwnsN (h + 6) v L W
  below : RowKit.Below h w1 W
theorem WSt.kept {h : Nat} {w1 W W' : World} {v : Value} {L : List Int} {m : Int} {row : Option Nat} (k : WSt h w1 v L m W) (hg : W.grownBy W' row) (hr : ∀ r, row = some r → h + 3 ≤ r ∧ r < h + 6) : WSt h w1 v L m W' := by
  refine ⟨k.bx.kept hg (fun e => by have := hr _ e.symm; omega), k.by'.kept hg (fun e => by have := hr _ e.symm; omega), ?_, k.below.grown hg (by have := k.bx.lt; omega) (fun r e => by have := hr r e; omega)⟩
  refine World.ownsRow.kept k.own hg ?_
  cases hv : v.ownBlock with
  | none => exact .inl rfl
  | some q =>
    refine .inr fun e => ?_
    have h1 := (World.ownsRow.lt k.own q hv).1
    have := hr q e.symm
    omega

set_option maxRecDepth 100000 in
set_option maxHeartbeats 2000000 in
theorem implWorst_any (b off cap : Nat) (d : Array CaseD) (rest : Int) (w : World) (hR : RowC w b off d) (hE : ErrAt w) (hcap : d.size ≤ cap) (hmax : cap ≤ maxLen) :
    Calls Tryd.prog 30 #[.agg #[.slice (some ⟨b, off, none⟩) d.size cap, .int .i64 rest]] w (Ints2 w.heap.size (worstN d rest) (swB d rest) w) := by
  have hv := fun W (hW : RowKit.Below w.heap.size w W) => switchValid_any b off cap d rest W (hR.below hW) (hE.below hW) hcap hmax
  have HR := Lib.hid hR
  obtain ⟨wa, hwa⟩ : ∃ wa, wa = w.alloc (.cells #[.slice (some ⟨b, off, none⟩) d.size cap, .int .i64 rest] 30) := ⟨_, rfl⟩
  have c0 : wa.cell? ⟨w.heap.size, 0, none⟩ = some (.slice (some ⟨b, off, none⟩) d.size cap) := by rw [hwa]; simp
  have c1 : wa.cell? ⟨w.heap.size, 1, none⟩ = some (.int .i64 rest) := by rw [hwa]; simp
  have hz : wa.heap.size = w.heap.size + 1 := by rw [hwa]; simp
  have hba : RowKit.Below w.heap.size w wa := by rw [hwa]; exact (Below.refl _ _).alloc (Nat.le_refl _) _
  have HA := Lib.hid hba
  have C0 := Lib.hid c0
  have C1 := Lib.hid c1
  have HWA := Lib.hid hwa
  have HI2 := Lib.hid (show Ints2 w.heap.size (worstN d rest) (swB d rest) w = fun x w' => ∃ v, x = .returned (.tuple #[v, .bool (swB d rest)]) ∧ OwnsN w.heap.size v (worstN d rest) w' ∧ RowKit.Below w.heap.size w w' from rfl)
  clear hba c0 c1 hwa hR hE
  refine (callsIn_wide (n := 5)).1 ?_
  rw [HI2.out]
  cases hs : swB d rest
  all_goals
    simp only [hs] at hv
    have HV := Lib.hid hv
    have HS := Lib.hid hs
    clear hv hs
    refine callsIn_of_wp_marks Tryd.func30 rfl trivial ?_ rfl
    simp only [Tryd.ntmps30, List.size_toArray, List.length_cons, List.length_nil, Nat.reduceAdd, Nat.reduceSub, Array.replicate_succ, Array.replicate_zero, List.push_toArray, List.append_toArray, List.nil_append, List.cons_append]
    gi_wp2_with fail
    rw [← HWA.out]
    refine ⟨trivial, ?_⟩
    refine (callsIn_wide.2 (HV.out _ HA.out)).mono ?_
    rintro x w1 ⟨rfl, hb⟩
    have HB := Lib.hid hb
    have hz1 := hb.size
    have a0 := (hb.cell (p := ⟨w.heap.size, 0, none⟩) (by omega : w.heap.size < wa.heap.size)).trans C0.out
    have a1 := (hb.cell (p := ⟨w.heap.size, 1, none⟩) (by omega : w.heap.size < wa.heap.size)).trans C1.out
    have HWB := Lib.hid (HA.out.trans (HB.out.mono (by omega)))
    clear hb
    have hwz : w.heap.size < w1.heap.size := by omega
    gi_wp2_with fail
  · refine ⟨_, results_tmp2 rfl _ _ _, _, rfl, ?_, HWB.out⟩
    rw [worstN, if_neg (by rw [HS.out]; simp)]
    exact World.ownsRow_nil _ _ _ _
  · refine ⟨trivial, ?_⟩
    refine (callsIn_wide.2 (chainsOf_any (d.size : Int) _)).mono ?_
    rintro x w2 ⟨rfl, rfl⟩
    gi_wp2_with fail
    have HOK := Lib.hid ((swB_iff d rest).1 HS.out)
    have h8 : d.size ≤ 8 := HOK.out.size
    obtain ⟨h, hh⟩ : ∃ h, h = w1.heap.size := ⟨_, rfl⟩
    obtain ⟨w3, hw3⟩ : ∃ w3, w3 = ((w1.alloc (.cells #[.slice none 0 0] 53)).alloc (.cells #[.int .i64 (-1)] 3)).alloc (.cells #[.int .i64 (d.size : Int)] 3) := ⟨_, rfl⟩
    have z3 : w3.heap.size = h + 3 := by rw [hw3, hh]; simp
    have hst : WSt h w1 (.slice none 0 0) [] (-1) w3 := by
      rw [hw3, hh]
      refine ⟨((Boxed.new w1 _ _).alloc _).alloc _, ?_, World.ownsRow_nil _ _ _ _, (((Below.refl _ _).alloc (Nat.le_refl _) _).alloc (by simp) _).alloc (by simp; omega) _⟩
      have := (Boxed.new (w1.alloc (.cells #[.slice none 0 0] 53)) 3 (.int .i64 (-1))).alloc (.cells #[.int .i64 (d.size : Int)] 3)
      rw [World.size_alloc] at this
      exact this
    have hcn : w3.cell? ⟨h + 2, 0, none⟩ = some (.int .i64 (d.size : Int)) := by rw [hw3, hh]; simp [go_sem]
    rw [← hh, ← hw3]
    have HST := Lib.hid hst
    have hwh : w.heap.size ≤ h := by rw [hh]; exact HWB.out.size
    have hwh1 : w.heap.size < h := by rw [hh]; exact hwz
    have HH := Lib.hid hh
    have hbl : b < h := Nat.lt_of_lt_of_le HR.out.old hwh
    have HRH := Lib.hid (HR.out.below HWB.out)
    have HA0 := Lib.hid a0
    have HA1 := Lib.hid a1
    clear hst hw3 hh a0 a1
    refine wpIn_chains (a1 := { tmps := #[.agg #[.slice (some ⟨b, off, none⟩) d.size cap, .int .i64 rest], .pointer (some ⟨w.heap.size, 0, none⟩), .slice none 0 0, .bool false, .pointer (some ⟨h, 0, none⟩), .pointer (some ⟨h + 1, 0, none⟩), .slice (some ⟨h + 5, 0, none⟩) d.size d.size, undef, .agg #[.slice (some ⟨b, off, none⟩) d.size cap, .int .i64 rest], .bool true, .bool false, .pointer (some ⟨w.heap.size, 0, none⟩), .slice (some ⟨b, off, none⟩) d.size cap, .int .i64 d.size, .func (.func 77) #[] #[.pointer (some ⟨h + 1 + 1, 0, none⟩)], .slice (some ⟨h + 5, 0, none⟩) d.size d.size, undef, undef, undef, undef, undef, undef, undef, undef, undef, undef, undef, undef], defers := [] })
      d.size (h + 2) h8 rfl hcn (by omega) (fun c W => ∃ v L m, PreB d rest c L m ∧ WSt h w1 v L m W) (fun c W => ∃ v L m, PostB d rest c L m ∧ WSt h w1 v L m W)
      ⟨_, _, _, .inl ⟨rfl, rfl, rfl⟩, HST.out⟩
      (fun c W W' row ⟨v, L, m, hp, hk⟩ hg hr => ⟨v, L, m, hp, hk.kept hg (fun r e => by have := hr r e; omega)⟩)
      (fun c W W' row ⟨v, L, m, hp, hk⟩ hg hr => ⟨v, L, m, hp, hk.kept hg (fun r e => by have := hr r e; omega)⟩)
      ?ass ?body (fun c r W ho ⟨v, L, m, hp, hk⟩ hn => ⟨v, L, m, postB_next hp ho hn, hk⟩) ?done
    case ass =>
      intro l W K hK
      rw [z3]
      gi_wp2
      exact hK
    case body =>
      rintro l c W ho ⟨v, L, m, hp, hk⟩ hbx
      rw [z3] at hbx ⊢
      have e5 : h + 3 + 2 = h + 5 := rfl
      rw [e5] at hbx ⊢
      have hcs := ho.1
      have s0 := (hk.below.cell (p := ⟨w.heap.size, 0, none⟩) hwh1).trans HA0.out
      have s1 := (hk.below.cell (p := ⟨w.heap.size, 1, none⟩) hwh1).trans HA1.out
      have hRW : RowC W b off d := HRH.out.below (by rw [← HH.out]; exact hk.below)
      have hcost := cost_any b off cap d rest (h + 5) d.size c W hRW hbx.row HOK.out ho
      rw [hcs] at hcost
      have hcb := costN_le HOK.out ho
      have HTK := Lib.hid (fun x => preB_take hp ho (x : m < costN d rest c))
      have HSK := Lib.hid (fun x => preB_skip hp (x : ¬ m < costN d rest c) hcb.1)
      obtain ⟨K, hK⟩ : ∃ K, K = costN d rest c := ⟨_, rfl⟩
      rw [← hK] at hcost hcb HTK HSK
      have HCO := Lib.hid hcost
      have HW := Lib.hid hk
      have HBX := Lib.hid hbx
      have HO := Lib.hid ho
      clear hcost hK hp hk hbx ho hRW
      gi_wp2_with fail
      refine ⟨trivial, ?_⟩
      refine (CallsIn.inRound l (callsIn_wide.2 HCO.out)).mono ?_
      rintro x W2 ⟨rfl, hb2⟩
      have hk2 := HW.out.kept (grown_of_below hb2) (fun r e => by cases e)
      have HB2 := Lib.hid (HBX.out.below hb2)
      have HKF := Lib.hid (KeepsFrom.of_grownBy (B := h + 3) (grown_of_below hb2) (fun r e => by cases e))
      have hby := hk2.by'.cell
      have fby := hk2.by'.frozen
      have hbxc := hk2.bx.cell
      have fbx := hk2.bx.frozen
      have HW2 := Lib.hid hk2
      clear hb2 hk2 HCO
      by_cases hlt : m < K
      · have hd1 : decide (m < K) = true := by simp [hlt]
        have HT := Lib.hid (HTK.out hlt)
        clear hlt
        obtain ⟨i0, hi, hi0, hi1, hi2⟩ := info_parts infoN
        have hlen : (c.toList.map encN).length = d.size * 1 := by simp [hcs]
        have hcl : ∀ j u, (c.toList.map encN)[j]? = some u → W2.cell? ((⟨h + 5, 0, none⟩ : Addr).add j) = some u := by
          intro j u hu
          have e : (⟨h + 5, 0, none⟩ : Addr).add j = ⟨h + 5, j, none⟩ := by unfold Addr.add; split <;> simp_all
          rw [e]
          by_cases hj : j < c.size
          · have := (HB2.out.holds j hj).1
            rw [Nat.zero_add] at this
            rw [this]
            simp [hj] at hu
            simp [hj, ← hu]
          · rw [List.getElem?_eq_none (by rw [List.length_map, Array.length_toList]; omega)] at hu
            cases hu
        have HLN := Lib.hid hlen
        have HCL := Lib.hid hcl
        have h62 : h + 6 ≤ W2.heap.size := HB2.out.lt
        have hmx : maxLen = 9223372036854775807 := rfl
        clear hlen hcl
        have fin : ∀ (v0 v' : Value) (W3 : World), W3.ownsRow (h + 6) 3 1 v' (0 + d.size) ([] ++ c.toList.map encN) → W2.grownBy W3 v0.ownBlock → (∀ r, v0.ownBlock = some r → h + 6 ≤ r ∧ ∀ o, W2.heap[r]? = some o → o.isCells = true) →
            KeepsFrom (h + 3) W ((W3.setCell ⟨h, 0, none⟩ v').setCell ⟨h + 1, 0, none⟩ (.int .i64 K)) ∧ WSt h w1 v' c.toList K ((W3.setCell ⟨h, 0, none⟩ v').setCell ⟨h + 1, 0, none⟩ (.int .i64 K)) ∧
            BoxN ((W3.setCell ⟨h, 0, none⟩ v').setCell ⟨h + 1, 0, none⟩ (.int .i64 K)) (h + 5) c := by
          intro v0 v' W3 hown hgr hr
          have k := HW2.out
          have g1 := grownBy_setCell' W3 h v'
          have g2 := grownBy_setCell' (W3.setCell ⟨h, 0, none⟩ v') (h + 1) (.int .i64 K)
          have ne : ∀ q, q < h + 6 → some q ≠ v0.ownBlock := fun q hq e => by have := (hr q e.symm).1; omega
          have x1 := ((k.bx.kept hgr (ne _ (by omega))).set v').kept g2 (by simp)
          have x2 := ((k.by'.kept hgr (ne _ (by omega))).kept g1 (by simp)).set (.int .i64 K)
          have x3 : OwnsN (h + 6) v' c.toList W3 := by
            unfold OwnsN
            rw [Array.length_toList, hcs]
            simpa using hown
          have own : ∀ q, q < h + 6 → v'.ownBlock = none ∨ v'.ownBlock ≠ some q := fun q hq => by
            cases hv' : v'.ownBlock with
            | none => exact .inl rfl
            | some p =>
              refine .inr fun e => ?_
              have := (World.ownsRow.lt x3 p hv').1
              cases e
              omega
          refine ⟨HKF.out.trans (((KeepsOthers.of_grownBy hgr (fun r o e ho => (hr r e).2 o ho)).trans ((KeepsOthers.setCell _ _ _).trans (KeepsOthers.setCell _ _ _))).from _), ⟨x1, x2, World.ownsRow.kept (World.ownsRow.kept x3 g1 (own _ (by omega))) g2 (own _ (by omega)), ?_⟩, ((HB2.out.kept hgr (ne _ (by omega))).kept g1 (by simp)).kept g2 (by simp)⟩
          exact (((k.below.grown hgr (by omega) (fun r e => by have := (hr r e).1; omega)).setCell (p := ⟨h, 0, none⟩) (Nat.le_refl _) _).setCell (p := ⟨h + 1, 0, none⟩) (Nat.le_succ _) _)
        have FIN := Lib.hid fin
        clear fin
        rcases HW2.out.own.2 with ⟨rfl, hn0⟩ | ⟨gw, cp, cur, rfl, hgw, hh2, hcp, hcm, hcz, hct⟩
        · gi_wp2_with (gi_at_builtin; refine wpListIn_append_own _ rfl _ _ 53 rfl (h + 6) 3 i0 (.int .i64 0) 1 8 Tryd.underlying53 hi hi0 hi1 hi2 rfl (by decide) (.slice none 0 0) 0 [] rfl (World.ownsRow_nil _ _ _ _) ⟨h + 5, 0, none⟩ d.size d.size (c.toList.map encN) rfl HLN.out HCL.out (one_of_map _) (by omega) (by omega) h62 ?_; intro v' W3 hown hgr hnl; obtain ⟨va, vn, vc, rfl⟩ := owns_slice hown; have F := Lib.hid (FIN.out (.slice none 0 0) _ W3 hown hgr (fun r e => by cases e)); have g0 := (HW2.out.bx.kept hgr (by simp [Value.ownBlock])).cell; have g1 := (HW2.out.bx.kept hgr (by simp [Value.ownBlock])).frozen; have g2 := (HW2.out.by'.kept hgr (by simp [Value.ownBlock])).cell; have g3 := (HW2.out.by'.kept hgr (by simp [Value.ownBlock])).frozen; clear hown hgr hnl)
          gi_wp2
          exact ⟨F.out.1, ⟨_, c.toList, K, HT.out, F.out.2.1⟩, F.out.2.2⟩
        · have HON := Lib.hid (show W2.ownsRow (h + 6) 3 1 (.slice (some ⟨gw, 0, none⟩) 0 cp) 0 [] from ⟨rfl, .inr ⟨gw, cp, cur, rfl, hgw, hh2, Nat.zero_le _, hcm, hcz, by simp⟩⟩)
          have HRW := Lib.hid (show ∀ r, (Value.slice (some ⟨gw, 0, none⟩) 0 cp).ownBlock = some r → h + 6 ≤ r ∧ ∀ o, W2.heap[r]? = some o → o.isCells = true by
            intro r e
            obtain rfl : gw = r := by simpa [Value.ownBlock] using e
            refine ⟨hgw, fun o ho => ?_⟩
            rw [hh2] at ho
            cases ho
            rfl)
          have hzc : (0 : Int) ≤ (cp : Int) := by omega
          gi_wp2_with (gi_at_builtin; refine wpListIn_append_own _ rfl _ _ 53 rfl (h + 6) 3 i0 (.int .i64 0) 1 8 Tryd.underlying53 hi hi0 hi1 hi2 rfl (by decide) (.slice (some ⟨gw, 0, none⟩) 0 cp) 0 [] rfl HON.out ⟨h + 5, 0, none⟩ d.size d.size (c.toList.map encN) rfl HLN.out HCL.out (one_of_map _) (by omega) (by omega) h62 ?_; intro v' W3 hown hgr hnl; obtain ⟨va, vn, vc, rfl⟩ := owns_slice hown; have F := Lib.hid (FIN.out (.slice (some ⟨gw, 0, none⟩) 0 cp) _ W3 hown hgr HRW.out); have g0 := (HW2.out.bx.kept hgr (by simp [Value.ownBlock]; omega)).cell; have g1 := (HW2.out.bx.kept hgr (by simp [Value.ownBlock]; omega)).frozen; have g2 := (HW2.out.by'.kept hgr (by simp [Value.ownBlock]; omega)).cell; have g3 := (HW2.out.by'.kept hgr (by simp [Value.ownBlock]; omega)).frozen; clear hown hgr hnl)
          gi_wp2
          exact ⟨F.out.1, ⟨_, c.toList, K, HT.out, F.out.2.1⟩, F.out.2.2⟩
      · have hd1 : decide (m < K) = false := by simp; omega
        have HT := Lib.hid (HSK.out (by omega))
        clear hlt
        gi_wp2
        exact ⟨HKF.out, ⟨v, L, m, HT.out, HW2.out⟩, HB2.out⟩
    case done =>
      rintro c W ho ⟨v, L, m, hp, hk⟩ hd hD
      rw [z3] at hD ⊢
      have hL := postB_last hp ho hd
      have hx := hk.bx.cell
      have HW := Lib.hid hk
      have HL := Lib.hid hL
      clear hp hk hL hd ho
      gi_wp2
      refine ⟨by simp, .inl ⟨_, _, rfl, run_takeDeferred hD, ?_⟩⟩
      have hwo := HW.out.kept (grownBy_putObj' W (h + 3) (.deferred none)) (fun r e => by cases e; omega)
      refine ⟨_, results_tmp2 rfl _ _ _, _, rfl, ?_, HWB.out.trans ((by rw [← HH.out]; exact hwo.below : RowKit.Below w1.heap.size w1 _).mono (by rw [← HH.out]; exact hwh))⟩
      rw [worstN, if_pos HS.out, ← HL.out]
      obtain ⟨h1, h2⟩ := hwo.own
      refine ⟨h1, ?_⟩
      rcases h2 with h2 | ⟨q, cap', cur, hv', hg, hr⟩
      · exact .inl h2
      · exact .inr ⟨q, cap', cur, hv', by omega, hr⟩
end Go.Proofs.YthchhgjnelkmhaaDoor
