
/- BestPlan: the program's and the model's. -/
import Derived.Test.YtjpcpiffffobcaaDoorKsLeast
import Derived.Test.YtjpcpiffffobcaaDoorKsCluM
import Derived.Maps.AppendAt
namespace Go.Proofs.YtjpcpiffffobcaaDoor
open Go.RowKit Go.Shelf Go.Lib Go.Sort

noncomputable def bestLN (d : Array CaseD) (rest : Int) : List CluP := if swB d rest = true then finL d 0 else []
theorem bestLN_len (d : Array CaseD) (rest : Int) : (bestLN d rest).length ≤ 1048576 := by
  unfold bestLN
  split
  · next h =>
    have h8 := ((swB_iff _ _).1 h).size
    have : (finL d 0).length ≤ d.size - 0 := planL_len _ _
    omega
  · simp
def Bp2 (base : Nat) (d : Array CaseD) (rest : Int) (w : World) (x : Ending) (w' : World) : Prop :=
  ∃ v, x = .returned (.tuple #[v, .bool (swB d rest)]) ∧ OwnsQ base v (bestLN d rest) w' ∧ RowKit.Below w.heap.size w w'
theorem ownsQ_mono {b b' : Nat} {v : Value} {l : List CluP} {w : World} (h : OwnsQ b' v l w) (hb : b ≤ b') : OwnsQ b v l w := by
  refine ⟨h.1, ?_⟩
  rcases h.2 with h0 | ⟨g, cap, cur, h1, h2, h3⟩
  · exact .inl h0
  · exact .inr ⟨g, cap, cur, h1, Nat.le_trans hb h2, h3⟩
set_option maxRecDepth 100000 in
set_option maxHeartbeats 1000000 in
theorem implBp_any (b off cap : Nat) (d : Array CaseD) (rest : Int) (w : World) (hR : RowC w b off d) (hE : ErrAt w) (hcap : d.size ≤ cap) (hmax : cap ≤ maxLen) :
    Calls Tryd.prog 29 #[.agg #[.slice (some ⟨b, off, none⟩) d.size cap, .int .i64 rest]] w (Bp2 w.heap.size d rest w) := by
  have HV := Lib.hid (fun W (hW : RowKit.Below w.heap.size w W) => switchValid_any b off cap d rest W (hR.below hW) (hE.below hW) hcap hmax)
  obtain ⟨wa, hwa⟩ : ∃ wa, wa = w.alloc (.cells #[.slice (some ⟨b, off, none⟩) d.size cap, .int .i64 rest] 32) := ⟨_, rfl⟩
  have hba : RowKit.Below w.heap.size w wa := by rw [hwa]; exact (Below.refl _ _).alloc (Nat.le_refl _) _
  have c0 : wa.cell? ⟨w.heap.size, 0, none⟩ = some (.slice (some ⟨b, off, none⟩) d.size cap) := by rw [hwa]; simp
  have c1 : wa.cell? ⟨w.heap.size, 1, none⟩ = some (.int .i64 rest) := by rw [hwa]; simp
  have hz : w.heap.size < wa.heap.size := by rw [hwa]; simp
  have HWA := Lib.hid hwa
  have HBA := Lib.hid hba
  clear hwa hba
  have HBP := Lib.hid (show Bp2 w.heap.size d rest w = fun x w' => ∃ v, x = .returned (.tuple #[v, .bool (swB d rest)]) ∧ OwnsQ w.heap.size v (bestLN d rest) w' ∧ RowKit.Below w.heap.size w w' from rfl)
  cases hs : swB d rest with
  | false =>
    have HK := Lib.hid (show bestLN d rest = [] by rw [bestLN, if_neg (by rw [hs]; simp)])
    have HS := Lib.hid hs
    rw [hs] at HV
    clear hs hR hE hcap hmax
    go_enter Tryd.func29, Tryd.ntmps29
    go_wp2_with fail
    rw [← HWA.out]
    go_wp2_with fail
    refine (HV.out _ HBA.out).mono ?_
    rintro y w1 ⟨rfl, hb⟩
    have HB := Lib.hid (HBA.out.trans (hb.mono HBA.out.size))
    clear hb c0 c1
    go_wp2_with fail
    refine bodyPost_ret (v := .tuple #[.slice none 0 0, .bool false]) (by simp [results, Tryd.results29, go_sem]) rfl ?_
    rw [HBP.out]
    exact ⟨_, by rw [HS.out], by rw [HK.out]; exact World.ownsRow_nil _ _ _ _, HB.out⟩
  | true =>
    have HK := Lib.hid (show bestLN d rest = finL d 0 by rw [bestLN, if_pos hs])
    have HS := Lib.hid hs
    have h8 := ((swB_iff _ _).1 hs).size
    have hlen : (finL d 0).length ≤ d.size - 0 := planL_len _ _
    have HL := Lib.hid (show 0 + (finL d 0).length ≤ 1000 by omega)
    have HT := Lib.hid (fun W (hW : RowKit.Below w.heap.size w W) => bestTail_any b off cap d rest W (hR.below hW) (hE.below hW) hcap hmax ((swB_iff _ _).1 hs))
    obtain ⟨z, hzz⟩ : ∃ z, z = (finT d 0).1 := ⟨_, rfl⟩
    rw [← hzz] at HT
    rw [hs] at HV
    clear hs hR hE hcap hmax hzz h8 hlen
    go_enter Tryd.func29, Tryd.ntmps29
    go_wp2_with fail
    rw [← HWA.out]
    go_wp2_with fail
    refine (HV.out _ HBA.out).mono ?_
    rintro y w1 ⟨rfl, hb⟩
    have HB := Lib.hid (HBA.out.trans (hb.mono HBA.out.size))
    have e0 := (hb.cell (p := ⟨w.heap.size, 0, none⟩) hz).trans c0
    have e1 := (hb.cell (p := ⟨w.heap.size, 1, none⟩) hz).trans c1
    clear hb c0 c1
    go_wp2_with fail
    refine (HT.out _ HB.out).mono ?_
    rintro y w2 ⟨v, rfl, hput, hb⟩
    have HB2 := Lib.hid (HB.out.trans (hb.mono HB.out.size))
    clear hb e0 e1
    obtain ⟨f, caps, rfl, hen, hca⟩ := put_any 0 w2 (finL d 0) v hput w2 (.slice none 0 0) 0 [] (Below.refl _ _) (World.ownsRow_nil _ _ _ _) HL.out
    have HCA := Lib.hid hca
    have hf1 := fun W => tail_field1 z (.func (.func f) #[] caps) W
    clear hput hca
    go_wp2_with fail
    refine HCA.out.mono ?_
    rintro y w3 ⟨s2, rfl, ho, hb3⟩
    have HO := Lib.hid ho
    have HB3 := Lib.hid (HB2.out.trans (hb3.mono HB2.out.size))
    clear ho hb3
    go_wp2_with fail
    refine bodyPost_ret (v := .tuple #[s2, .bool true]) (by simp [results, Tryd.results29, go_sem]) rfl ?_
    rw [HBP.out]
    refine ⟨s2, by rw [HS.out], ?_, HB3.out⟩
    rw [HK.out]
    have ho := HO.out
    rw [Nat.zero_add, List.nil_append] at ho
    exact ownsQ_mono ho HB2.out.size
theorem infoBp : (Tryd.prog.info? 34).map (fun i => (i.zero, i.size, i.bytes)) = some (some (.agg #[.int .i64 0, .int .i64 0, .string ⟨#[]⟩]), 3, 32) := by kernel_rfl
set_option maxRecDepth 100000 in
set_option maxHeartbeats 1000000 in
theorem specBp_any (b off cap : Nat) (d : Array CaseD) (rest : Int) (w : World) (hR : RowC w b off d) (hcap : d.size ≤ cap) (hmax : cap ≤ maxLen) :
    Calls Tryd.prog 28 #[.agg #[.slice (some ⟨b, off, none⟩) d.size cap, .int .i64 rest]] w (Bp2 w.heap.size d rest w) := by
  have HV := Lib.hid (fun W (hW : RowKit.Below w.heap.size w W) => specValid_any b off cap d rest W (hR.below hW) hcap hmax)
  obtain ⟨wa, hwa⟩ : ∃ wa, wa = w.alloc (.cells #[.slice (some ⟨b, off, none⟩) d.size cap, .int .i64 rest] 32) := ⟨_, rfl⟩
  have hba : RowKit.Below w.heap.size w wa := by rw [hwa]; exact (Below.refl _ _).alloc (Nat.le_refl _) _
  have c0 : wa.cell? ⟨w.heap.size, 0, none⟩ = some (.slice (some ⟨b, off, none⟩) d.size cap) := by rw [hwa]; simp
  have c1 : wa.cell? ⟨w.heap.size, 1, none⟩ = some (.int .i64 rest) := by rw [hwa]; simp
  have hz : w.heap.size < wa.heap.size := by rw [hwa]; simp
  obtain ⟨wb, hwb⟩ : ∃ wb, wb = wa.alloc (.cells #[] 34) := ⟨_, rfl⟩
  have hbb : RowKit.Below wa.heap.size wa wb := by rw [hwb]; exact (Below.refl _ _).alloc (Nat.le_refl _) _
  have c0 := (hbb.cell (p := ⟨w.heap.size, 0, none⟩) hz).trans c0
  have c1 := (hbb.cell (p := ⟨w.heap.size, 1, none⟩) hz).trans c1
  have ho0 : wb.ownsRow w.heap.size 34 3 (.slice (some ⟨wa.heap.size, 0, none⟩) 0 0) 0 [] := by rw [hwb]; exact World.ownsRow_made wa #[] 0 (by omega) (by decide) rfl
  have hzs : wa.heap.size = w.heap.size + 1 := by rw [hwa]; simp
  have hz : w.heap.size < wb.heap.size := Nat.lt_of_lt_of_le hz hbb.size
  rw [hzs] at ho0
  have HO := Lib.hid ho0
  have HWA := Lib.hid hwa
  have HWB := Lib.hid hwb
  have HBB := Lib.hid (hba.trans (hbb.mono hba.size))
  clear hwa hba hbb hwb hzs ho0
  have HBP := Lib.hid (show Bp2 w.heap.size d rest w = fun x w' => ∃ v, x = .returned (.tuple #[v, .bool (swB d rest)]) ∧ OwnsQ w.heap.size v (bestLN d rest) w' ∧ RowKit.Below w.heap.size w w' from rfl)
  cases hs : swB d rest with
  | false =>
    have HK := Lib.hid (show bestLN d rest = [] by rw [bestLN, if_neg (by rw [hs]; simp)])
    have HS := Lib.hid hs
    rw [hs] at HV
    clear hs hR hcap hmax
    go_enter Tryd.func28, Tryd.ntmps28
    go_wp2_with fail
    rw [← HWA.out]
    go_wp2_with fail
    rw [← HWB.out]
    refine (HV.out _ HBB.out).mono ?_
    rintro y w1 ⟨rfl, hb⟩
    have HSB := Lib.hid hb
    have HB := Lib.hid (HBB.out.trans (hb.mono HBB.out.size))
    clear hb c0 c1
    go_wp2_with fail
    refine bodyPost_ret (v := .tuple #[.slice (some ⟨w.heap.size + 1, 0, none⟩) 0 0, .bool false]) (by simp [results, Tryd.results28, go_sem]) rfl ?_
    rw [HBP.out]
    exact ⟨_, by rw [HS.out], by rw [HK.out]; exact owns_below HO.out HSB.out, HB.out⟩
  | true =>
    have HK := Lib.hid (show bestLN d rest = finL d 0 by rw [bestLN, if_pos hs])
    have HS := Lib.hid hs
    have h8 := ((swB_iff _ _).1 hs).size
    have h8i : (d.size : Int) ≤ 8 := by omega
    have hok := (swB_iff _ _).1 hs
    have HP := Lib.hid (fun W (hW : RowKit.Below w.heap.size w W) => l8Plans_any b off cap d rest W (hR.below hW) hok hcap)
    have HT := Lib.hid (fun i (hi : i < d.size) => ((tabT_ok hok d.size (Nat.le_refl _)).2 i (by omega) hi).2)
    have HC := Lib.hid (fun i (hi : i < d.size) => finL_cons hok hi)
    have HBE := Lib.hid (fun i k (hik : i ≤ k) (hk : k < d.size) W (hW : RowKit.Below w.heap.size w W) => l8Best_any b off cap d rest i k W (hR.below hW) hok hik hk hcap)
    rw [hs] at HV
    clear hs hR hcap hmax hok
    go_enter Tryd.func28, Tryd.ntmps28
    go_wp2_with fail
    rw [← HWA.out]
    go_wp2_with fail
    rw [← HWB.out]
    refine (HV.out _ HBB.out).mono ?_
    rintro y w1 ⟨rfl, hb⟩
    have HO1 := Lib.hid (owns_below HO.out hb)
    have HB := Lib.hid (HBB.out.trans (hb.mono HBB.out.size))
    have e0 := (hb.cell (p := ⟨w.heap.size, 0, none⟩) hz).trans c0
    have e1 := (hb.cell (p := ⟨w.heap.size, 1, none⟩) hz).trans c1
    have hz1 : w.heap.size < w1.heap.size := Nat.lt_of_lt_of_le hz hb.size
    clear hb c0 c1
    go_wp2_with fail
    refine (HP.out _ HB.out).mono ?_
    rintro y w2 ⟨g1, g2, rfl, -, hb2, -, hg2, hb⟩
    have e0 := (hb.cell (p := ⟨w.heap.size, 0, none⟩) hz1).trans e0
    have e1 := (hb.cell (p := ⟨w.heap.size, 1, none⟩) hz1).trans e1
    have hz2 : w.heap.size < w2.heap.size := Nat.lt_of_lt_of_le hz1 hb.size
    have HL := Lib.hid hb2
    have HO2 := Lib.hid (owns_below HO1.out hb)
    have HB2 := Lib.hid (HB.out.trans (hb.mono HB.out.size))
    clear hb hb2
    have HLN := Lib.hid (show (finL d 0).length ≤ 8 by have : (finL d 0).length ≤ d.size - 0 := planL_len _ _; omega)
    obtain ⟨i0, hi, hi0, hi1, hi2⟩ := info_parts infoBp
    go_wp2_with fail
    go_loopw [4, 7] (fun v x wr => ∃ (i : Nat) (pre : List CluP), x = .int .i64 i ∧ i ≤ d.size ∧ pre ++ finL d i = finL d 0 ∧ wr.cell? ⟨w.heap.size, 0, none⟩ = some (.slice (some ⟨b, off, none⟩) d.size cap) ∧ wr.cell? ⟨w.heap.size, 1, none⟩ = some (.int .i64 rest) ∧
      Hid (wr.ownsRow w.heap.size 34 3 v pre.length (flatQ pre)) ∧ Hid (BoxF wr g2 d.size fun j => ((tabT d d.size j).2 : Int)) ∧ Hid (RowKit.Below w.heap.size w wr) ∧ w.heap.size < wr.heap.size ∧ (some w.heap.size ≠ v.ownBlock ∧ some g2 ≠ v.ownBlock)) (fun _ x _ => d.size - (intOf x).toNat)
    case atStart => exact ⟨0, [], rfl, Nat.zero_le _, rfl, e0, e1, HO2.out, HL.out, HB2.out, hz2, (by intro h; simp [Value.ownBlock] at h), (by intro h; have h2 : w.heap.size + 1 < w1.heap.size := (HO1.out.lt _ rfl).2; simp [Value.ownBlock] at h; omega)⟩
    case round =>
      obtain ⟨i, pre, rfl, hi9, hpre, c0, c1, HOwn, HL, HW, hzr, hne1, hne2⟩ := hrel
      by_cases hlt : i < d.size
      · have hil : (i : Int) < (d.size : Int) := by omega
        have hii0 : (0 : Int) ≤ (i : Int) := by omega
        have ht := HT.out i hlt
        have v0 := HL.out.cell i hlt
        have g2l := HL.out.lt
        have hc := HC.out i hlt
        have hbe := fun W hW => HBE.out i (tabT d d.size i).2 ht.1 ht.2 W hW
        obtain ⟨k, hk⟩ : ∃ k, k = (tabT d d.size i).2 := ⟨_, rfl⟩
        obtain ⟨bn, hbn⟩ : ∃ z, z = bestN8 (subD d i k) := ⟨_, rfl⟩
        obtain ⟨bp, hbp⟩ : ∃ z, z = bestP8 (subD d i k) := ⟨_, rfl⟩
        rw [← hk] at ht v0 hc hbe
        rw [← hbn] at hc hbe
        rw [← hbp] at hbe
        rw [hc] at hpre
        have hpl : pre.length + 1 ≤ 8 := by
          have h1 := HLN.out
          rw [← hpre, List.length_append, List.length_cons] at h1
          omega
        have HPRE := Lib.hid hpre
        have HKK := Lib.hid hk
        clear hk hbn hbp hpre hc
        have HBE1 := Lib.hid (fun W (hW : RowKit.Below wr.heap.size wr W) => hbe W (HW.out.trans (hW.mono HW.out.size)))
        clear hbe
        have q0 := fun p : BW wr => p.cell (a := ⟨w.heap.size, 0, none⟩) hzr c0
        have q1 := fun p : BW wr => p.cell (a := ⟨w.heap.size, 1, none⟩) hzr c1
        have q2 := fun p : BW wr => p.cell (a := ⟨g2, i, none⟩) g2l v0
        obtain ⟨wo, rfl⟩ : ∃ wo, wo = wr := ⟨_, rfl⟩
        go_wp2_with fail
        refine wp_region_bw (by kernel_rfl) (by kernel_rfl) ?_
        repeat (go_big_quiet_step ((go_at_call 49; refine bw_of (HBE1.out _ (by first | assumption | exact BW.h _ | skip)))))
        refine wpQuiet_nil ?_
        rintro _ ⟨p, rfl⟩
        have v1 := q2 p
        have e2 := q0 p
        have e3 := q1 p
        have hzp : w.heap.size < p.W.heap.size := Nat.lt_of_lt_of_le hzr p.h.size
        have HLP := Lib.hid (HL.out.below p.h)
        have HOP := Lib.hid (owns_below HOwn.out p.h)
        have HWP := Lib.hid (HW.out.trans (p.h.mono HW.out.size))
        obtain ⟨W, hW⟩ : ∃ W, W = p.W := ⟨_, rfl⟩
        rw [← hW] at v1 e2 e3 hzp HLP HOP HWP ⊢
        have hg2W : g2 < W.heap.size := HLP.out.lt
        clear hW p q0 q1 q2 v0 c0 c1 HL HOwn HW hzr g2l
        have hi8 : (i : Int) ≤ 8 := by omega
        go_wp2_with (at_builtin; refine wpList_append_own_at (w := _) rfl _ _ 44 rfl w.heap.size 34 i0 (.agg #[.int .i64 0, .int .i64 0, .string ⟨#[]⟩]) 3 32 Tryd.underlying44 hi hi0 hi1 hi2 rfl (by decide) _ _ _ rfl (HOP.out.alloc _) ⟨W.heap.size, 0, none⟩ 1 1 (cellsQ (i, k, bn)) rfl rfl ?c1 ?c2 ?c3 ?c4 ?c5 ?_)
        case c1 => intro j u hj; match j, hj with | 0, hj => (simp [cellsQ] at hj; subst hj; simp [Addr.add]) | 1, hj => (simp [cellsQ] at hj; subst hj; simp [Addr.add]) | 2, hj => (simp [cellsQ] at hj; subst hj; simp [Addr.add])
        case c2 => intro u hu; simp [cellsQ] at hu; rcases hu with rfl | rfl | rfl <;> rfl
        case c3 => unfold maxLen; omega
        case c4 => omega
        case c5 => simp; omega
        intro v' w3 hown3 hgrow _ hwhere
        have hb4 : RowKit.Below w.heap.size w w3 := (HWP.out.alloc (by omega) _).grown hgrow (by simp; omega) (fun q hq => (HOP.out.lt q hq).1)
        have z3 : w.heap.size < w3.heap.size := Nat.lt_of_lt_of_le (by simp; omega) hgrow.size
        have f0 := hgrow.cell (a := ⟨w.heap.size, 0, none⟩) ((World.cell?_alloc_past _ _ _ hzp).trans e2) hne1
        have f1 := hgrow.cell (a := ⟨w.heap.size, 1, none⟩) ((World.cell?_alloc_past _ _ _ hzp).trans e3) hne1
        have f2 := hgrow.cell (a := ⟨g2, i, none⟩) ((World.cell?_alloc_past _ _ _ hg2W).trans v1) hne2
        have HL3 := Lib.hid (show BoxF w3 g2 d.size fun j => ((tabT d d.size j).2 : Int) from ⟨Nat.lt_of_lt_of_le (by simp; omega) hgrow.size, fun j hj => hgrow.cell ((World.cell?_alloc_past _ _ _ hg2W).trans (HLP.out.cell j hj)) hne2,
          fun j => (World.frozen?_of_block (hgrow.block g2 (by simp; omega) hne2)).trans ((World.frozen?_alloc_past _ _ _ hg2W).trans (HLP.out.froz j))⟩)
        have hn1 : some w.heap.size ≠ v'.ownBlock := by
          rcases hwhere with h | h
          · rw [h]; exact hne1
          · rw [h]; intro h2; simp at h2; omega
        have hn2 : some g2 ≠ v'.ownBlock := by
          rcases hwhere with h | h
          · rw [h]; exact hne2
          · rw [h]; intro h2; simp at h2; omega
        have HB4 := Lib.hid hb4
        have HO4 := Lib.hid hown3
        clear hown3 hgrow hb4 hwhere e2 e3 v1
        have hk8 : (k : Int) + 1 ≤ 9 := by omega
        go_wp2
        go_roundw
        case rel =>
          refine ⟨k + 1, pre ++ [(i, k, bn)], by go_num, by omega, ?_, f0, f1, ?_, HL3.out, HB4.out, z3, hn1, hn2⟩
          · rw [List.append_assoc]; exact HPRE.out
          · have := HO4.out
            rw [show flatQ (pre ++ [(i, k, bn)]) = flatQ pre ++ cellsQ (i, k, bn) by simp [flatQ], List.length_append, List.length_singleton]
            exact this
        case measure => simp [intOf]; omega
      · have hke : i = d.size := by omega
        have HKE := Lib.hid hke
        have HPRE := Lib.hid hpre
        have hkn : ¬ (i : Int) < (d.size : Int) := by omega
        clear hke hpre hlt
        go_wp2_with fail
        refine bodyPost_ret (v := .tuple #[u4, .bool true]) (by simp [results, Tryd.results28, go_sem]) rfl ?_
        rw [HBP.out]
        refine ⟨u4, by rw [HS.out], ?_, HW.out⟩
        have h := HPRE.out
        rw [finL_end (by have := HKE.out; omega), List.append_nil] at h
        rw [HK.out, ← h]
        exact HOwn.out
end Go.Proofs.YtjpcpiffffobcaaDoor
