
/- Slices of clusters that calls have made: compared, marked, found marked. · BestPlan: the program's and the model's. -/
import Derived.Test.YtjpcpiffffobcaaGreatDoorKsMark
import Derived.Test.YtjpcpiffffobcaaGreatDoorKsClu
import Derived.Test.YtjpcpiffffobcaaGreatDoorKsTailC
import Derived.Test.YtjpcpiffffobcaaGreatDoorKsLeast
import Derived.Maps.AppendAt
namespace Go.Proofs.YtjpcpiffffobcaaGreatDoor
open Go.RowKit Go.Shelf Go.Lib Go.Sort

abbrev CluP := Nat × Nat × ByteArray
def OwnsQ (base : Nat) (v : Value) (l : List CluP) (w : World) : Prop := w.ownsRow base 45 3 v l.length (flatQ l)
theorem flatQ_length (l : List CluP) : (flatQ l).length = l.length * 3 := by
  induction l with
  | nil => rfl
  | cons c l ih => rw [flatQ_cons, List.length_append, ih, List.length_cons]; show 3 + l.length * 3 = _; omega
def cluOf (c : CluP) : CluD := ⟨c.1, c.2.1, c.2.2⟩
theorem flatQ_get : ∀ (l : List CluP) (j : Nat) (_ : j < l.length) (r : Nat) (_ : r < 3), (flatQ l)[j * 3 + r]? = (encQ ((l.map cluOf).toArray[j]!))[r]?
  | [], _, h, _, _ => absurd h (Nat.not_lt_zero _)
  | c :: l, 0, _, r, hr => by
    rw [flatQ_cons, Nat.zero_mul, Nat.zero_add, List.getElem?_append_left (by show r < 3; exact hr)]
    simp [cluOf, encQ, cellsQ]
  | c :: l, j + 1, h, r, hr => by
    have hl : j < l.length := by simpa using h
    have := flatQ_get l j hl r hr
    rw [flatQ_cons, List.getElem?_append_right (by show 3 ≤ _; omega), show (j + 1) * 3 + r - (cellsQ c).length = j * 3 + r by show (j + 1) * 3 + r - 3 = _; omega, this]
    simp
theorem ownsQ_zero {base : Nat} {p : Option Addr} {n cap : Nat} {l : List CluP} {w : World} (h : OwnsQ base (.slice p n cap) l w) : n = l.length := by
  rcases h.2 with ⟨h0, h1⟩ | ⟨g, c, cur, h0, _⟩
  · simp only [Value.slice.injEq] at h0
    omega
  · simp only [Value.slice.injEq] at h0
    exact h0.2.1
theorem ownsQ_row {base g n cap : Nat} {l : List CluP} {w : World} (h : OwnsQ base (.slice (some ⟨g, 0, none⟩) n cap) l w) : RowQ w g 0 (l.map cluOf).toArray := by
  have hl := (World.ownsRow.lt h g rfl).2
  have hzz := ownsQ_zero h
  subst hzz
  have hs : (l.map cluOf).toArray.size = l.length := by simp
  have hc : ∀ j r, j < l.length → r < 3 → w.cell? ⟨g, 0 + j * 3 + r, none⟩ = (encQ ((l.map cluOf).toArray[j]!))[r]? := fun j r hj hr => by
    have h1 := World.ownsRow.cellAt (show w.ownsRow base 45 3 (.slice (some ⟨g, 0, none⟩) l.length cap) l.length (flatQ l) from h) (j * 3 + r) (by omega)
    rw [flatQ_get l j hj r hr] at h1
    rw [Nat.zero_add]
    exact h1
  exact ⟨hl, fun j hj => hc j 0 (by omega) (by omega), fun j hj => hc j 1 (by omega) (by omega), fun j hj => hc j 2 (by omega) (by omega)⟩
def markVQ (k : Nat) (t : Nat) : Value := if t % 3 = 2 then .string (markS ((k + t : Nat) : Int)) else .int .i64 ((k + t : Nat) : Int)
structure HotQ (W : World) (g N k m : Nat) : Prop where
  lt : g < W.heap.size
  has : ∀ t, t < N → ∃ u, W.cell? ⟨g, t, none⟩ = some u
  cold : ∀ t, t < N → W.frozen? ⟨g, t, none⟩ = false
  marked : ∀ t, t < m → W.cell? ⟨g, t, none⟩ = some (markVQ k t)
theorem HotQ.below {W W' : World} {g N k m : Nat} (h : HotQ W g N k m) (hb : RowKit.Below W.heap.size W W') : HotQ W' g N k m :=
  ⟨Nat.lt_of_lt_of_le h.lt hb.size, fun t ht => by obtain ⟨u, hu⟩ := h.has t ht; exact ⟨u, (hb.cell (p := ⟨g, t, none⟩) h.lt).trans hu⟩, fun t ht => (hb.frozen (p := ⟨g, t, none⟩) h.lt).trans (h.cold t ht),
    fun t ht => (hb.cell (p := ⟨g, t, none⟩) h.lt).trans (h.marked t ht)⟩
theorem HotQ.set {W : World} {g N k m : Nat} (h : HotQ W g N k m) (hm : m < N) : HotQ (W.setCell ⟨g, m, none⟩ (markVQ k m)) g N k (m + 1) := by
  refine ⟨by rw [World.size_setCell]; exact h.lt, fun t ht => ?_, fun t ht => by rw [World.frozen?_setCell]; exact h.cold t ht, fun t ht => ?_⟩
  · by_cases e : t = m
    · subst e
      obtain ⟨u, hu⟩ := h.has t ht
      exact ⟨_, World.cell?_setCell_same _ _ _ hu⟩
    · obtain ⟨u, hu⟩ := h.has t ht
      exact ⟨u, (World.cell?_setCell_other _ _ _ _ (fun q => e (by cases q; rfl))).trans hu⟩
  · by_cases e : t = m
    · subst e
      obtain ⟨u, hu⟩ := h.has t hm
      exact World.cell?_setCell_same _ _ _ hu
    · exact (World.cell?_setCell_other _ _ _ _ (fun q => e (by cases q; rfl))).trans (h.marked t (by omega))
set_option maxHeartbeats 400000 in
theorem eqNilQ_any (p q : Option Addr) (c1 c2 : Nat) (w : World) : Calls Tryz.prog 13 #[.slice p 0 c1, .slice q 0 c2] w fun x w' => x = .returned (.bool true) ∧ w = w' := by
  go_enter Tryz.func13, Tryz.ntmps13
  go_wp2
  refine wp_loop_rounds 1 ?_
  rw [rounds_succ]
  go_wp2
  go_ret
  exact ⟨rfl, rfl⟩

def FormQ (v : Value) (n : Nat) : Prop := (v = .slice none 0 0 ∧ n = 0) ∨ ∃ g cap, v = .slice (some ⟨g, 0, none⟩) n cap
theorem owns_formQ {base : Nat} {v : Value} {l : List CluP} {w : World} (h : OwnsQ base v l w) : FormQ v l.length := by
  rcases h.2 with h0 | ⟨g, cap, cur, h0, _⟩
  · exact .inl h0
  · exact .inr ⟨g, cap, h0⟩
theorem eqOwnQ_any {b1 b2 : Nat} {v1 v2 : Value} {l : List CluP} {w : World} (h1 : OwnsQ b1 v1 l w) (h2 : OwnsQ b2 v2 l w) (hn : l.length ≤ 1048576) :
    Calls Tryz.prog 13 #[v1, v2] w fun x w' => x = .returned (.bool true) ∧ RowKit.Below w.heap.size w w' := by
  by_cases h0 : l.length = 0
  · have n1 : ∃ p c, v1 = .slice p 0 c := by
      rcases owns_formQ h1 with ⟨h, _⟩ | ⟨g, c, h⟩
      · exact ⟨_, _, h⟩
      · exact ⟨some ⟨g, 0, none⟩, c, by rw [h, h0]⟩
    have n2 : ∃ p c, v2 = .slice p 0 c := by
      rcases owns_formQ h2 with ⟨h, _⟩ | ⟨g, c, h⟩
      · exact ⟨_, _, h⟩
      · exact ⟨some ⟨g, 0, none⟩, c, by rw [h, h0]⟩
    obtain ⟨p, c, rfl⟩ := n1
    obtain ⟨q, e, rfl⟩ := n2
    exact (eqNilQ_any p q c e w).mono fun _ _ ⟨a, b⟩ => ⟨a, b ▸ Below.refl _ _⟩
  · rcases owns_formQ h1 with ⟨_, h⟩ | ⟨g1, c1, rfl⟩
    · exact absurd h h0
    · rcases owns_formQ h2 with ⟨_, h⟩ | ⟨g2, c2, rfl⟩
      · exact absurd h h0
      · have := eqClusterS_same g1 0 c1 g2 0 c2 (l.map cluOf).toArray w (ownsQ_row h1) (ownsQ_row h2) (by simpa using hn)
        simpa using this

/-- What a slice value holds is marked. -/
def MarkedQ (w : World) (v : Value) (n : Nat) : Prop := ∀ g, v.ownBlock = some g → HotQ w g (n * 3) 1 (n * 3)
theorem MarkedQ.below {w w' : World} {v : Value} {n : Nat} (h : MarkedQ w v n) (hb : RowKit.Below w.heap.size w w') : MarkedQ w' v n := fun g hg => (h g hg).below hb
theorem hotQ_of_owns {base g n cap : Nat} {l : List CluP} {w : World} (h : OwnsQ base (.slice (some ⟨g, 0, none⟩) n cap) l w) : HotQ w g (n * 3) 1 0 := by
  have hn := ownsQ_zero h
  have hl := (World.ownsRow.lt h g rfl).2
  subst hn
  refine ⟨hl, fun t ht => ?_, fun t _ => ?_, fun t ht => absurd ht (Nat.not_lt_zero t)⟩
  · have hf := flatQ_length l
    exact ⟨_, (World.ownsRow.cellAt h t ht).trans (List.getElem?_eq_getElem (by omega))⟩
  · rcases h.2 with ⟨h0, _⟩ | ⟨g', c, cur, h0, _, hh, _⟩
    · cases h0
    · simp only [Value.slice.injEq, Option.some.injEq, Addr.mk.injEq] at h0
      rw [← h0.1.1] at hh
      simp [World.frozen?, hh]
end Go.Proofs.YtjpcpiffffobcaaGreatDoor

namespace Go.Proofs.YtjpcpiffffobcaaGreatDoor
open Go.RowKit Go.Shelf Go.Lib Go.Sort

noncomputable def bestLN (d : Array CaseD) (rest : Int) : List CluP := if swB d rest = true then finL d 0 else []
theorem bestLN_len (d : Array CaseD) (rest : Int) : (bestLN d rest).length ≤ 1048576 := by
  unfold bestLN
  split
  · next h =>
    have h8 := ((swB_iff _ _).1 h).size
    have : (finL d 0).length ≤ d.size - 0 := planL_len _ _
    omega
  · simp
def Bp2 (base : Nat) (d : Array CaseD) (rest : Int) (w : World) (x : Ending) (w' : World) : Prop :=
  ∃ v, x = .returned (.tuple #[v, .bool (swB d rest)]) ∧ OwnsQ base v (bestLN d rest) w' ∧ RowKit.Below w.heap.size w w'
/-- As Bp2, and the row is there, empty or not. -/
def Bp3 (base : Nat) (d : Array CaseD) (rest : Int) (w : World) (x : Ending) (w' : World) : Prop :=
  ∃ v, x = .returned (.tuple #[v, .bool (swB d rest)]) ∧ OwnsQ base v (bestLN d rest) w' ∧ RowKit.Below w.heap.size w w' ∧ v ≠ .slice none 0 0
theorem ownsQ_mono {b b' : Nat} {v : Value} {l : List CluP} {w : World} (h : OwnsQ b' v l w) (hb : b ≤ b') : OwnsQ b v l w := by
  refine ⟨h.1, ?_⟩
  rcases h.2 with h0 | ⟨g, cap, cur, h1, h2, h3⟩
  · exact .inl h0
  · exact .inr ⟨g, cap, cur, h1, Nat.le_trans hb h2, h3⟩
theorem infoBp : (Tryz.prog.info? 45).map (fun i => (i.zero, i.size, i.bytes)) = some (some (.agg #[.int .i64 0, .int .i64 0, .string ⟨#[]⟩]), 3, 32) := by kernel_rfl
set_option maxRecDepth 100000 in
set_option maxHeartbeats 1000000 in
theorem specBq_any (b off cap : Nat) (d : Array CaseD) (rest : Int) (w : World) (hR : RowC w b off d) (hcap : d.size ≤ cap) (hmax : cap ≤ maxLen) :
    Calls Tryz.prog 73 #[.agg #[.slice (some ⟨b, off, none⟩) d.size cap, .int .i64 rest]] w (Bp3 w.heap.size d rest w) := by
  have HV := Lib.hid (fun W (hW : RowKit.Below w.heap.size w W) => specValid_any b off cap d rest W (hR.below hW) hcap hmax)
  obtain ⟨wa, hwa⟩ : ∃ wa, wa = w.alloc (.cells #[.slice (some ⟨b, off, none⟩) d.size cap, .int .i64 rest] 32) := ⟨_, rfl⟩
  have hba : RowKit.Below w.heap.size w wa := by rw [hwa]; exact (Below.refl _ _).alloc (Nat.le_refl _) _
  have c0 : wa.cell? ⟨w.heap.size, 0, none⟩ = some (.slice (some ⟨b, off, none⟩) d.size cap) := by rw [hwa]; simp
  have c1 : wa.cell? ⟨w.heap.size, 1, none⟩ = some (.int .i64 rest) := by rw [hwa]; simp
  have hz : w.heap.size < wa.heap.size := by rw [hwa]; simp
  obtain ⟨wb, hwb⟩ : ∃ wb, wb = wa.alloc (.cells #[] 45) := ⟨_, rfl⟩
  have hbb : RowKit.Below wa.heap.size wa wb := by rw [hwb]; exact (Below.refl _ _).alloc (Nat.le_refl _) _
  have c0 := (hbb.cell (p := ⟨w.heap.size, 0, none⟩) hz).trans c0
  have c1 := (hbb.cell (p := ⟨w.heap.size, 1, none⟩) hz).trans c1
  have ho0 : wb.ownsRow w.heap.size 45 3 (.slice (some ⟨wa.heap.size, 0, none⟩) 0 0) 0 [] := by rw [hwb]; exact World.ownsRow_made wa #[] 0 (by omega) (by decide) rfl
  have hzs : wa.heap.size = w.heap.size + 1 := by rw [hwa]; simp
  have hz : w.heap.size < wb.heap.size := Nat.lt_of_lt_of_le hz hbb.size
  rw [hzs] at ho0
  have HO := Lib.hid ho0
  have HWA := Lib.hid hwa
  have HWB := Lib.hid hwb
  have HBB := Lib.hid (hba.trans (hbb.mono hba.size))
  clear hwa hba hbb hwb hzs ho0
  have HBP := Lib.hid (show Bp3 w.heap.size d rest w = fun x w' => ∃ v, x = .returned (.tuple #[v, .bool (swB d rest)]) ∧ OwnsQ w.heap.size v (bestLN d rest) w' ∧ RowKit.Below w.heap.size w w' ∧ v ≠ .slice none 0 0 from rfl)
  cases hs : swB d rest with
  | false =>
    have HK := Lib.hid (show bestLN d rest = [] by rw [bestLN, if_neg (by rw [hs]; simp)])
    have HS := Lib.hid hs
    rw [hs] at HV
    clear hs hR hcap hmax
    go_enter Tryz.func73, Tryz.ntmps73
    go_wp2_with fail
    rw [← HWA.out]
    go_wp2_with fail
    rw [← HWB.out]
    refine (HV.out _ HBB.out).mono ?_
    rintro y w1 ⟨rfl, hb⟩
    have HSB := Lib.hid hb
    have HB := Lib.hid (HBB.out.trans (hb.mono HBB.out.size))
    clear hb c0 c1
    go_wp2_with fail
    refine bodyPost_ret (v := .tuple #[.slice (some ⟨w.heap.size + 1, 0, none⟩) 0 0, .bool false]) (by simp [results, Tryz.results73, go_sem]) rfl ?_
    rw [HBP.out]
    exact ⟨_, by rw [HS.out], by rw [HK.out]; exact owns_below HO.out HSB.out, HB.out, (fun h => by cases h)⟩
  | true =>
    have HK := Lib.hid (show bestLN d rest = finL d 0 by rw [bestLN, if_pos hs])
    have HS := Lib.hid hs
    have h8 := ((swB_iff _ _).1 hs).size
    have h8i : (d.size : Int) ≤ 8 := by omega
    have hok := (swB_iff _ _).1 hs
    have HP := Lib.hid (fun W (hW : RowKit.Below w.heap.size w W) => l8Plans_any b off cap d rest W (hR.below hW) hok hcap)
    have HT := Lib.hid (fun i (hi : i < d.size) => ((tabT_ok hok d.size (Nat.le_refl _)).2 i (by omega) hi).2)
    have HC := Lib.hid (fun i (hi : i < d.size) => finL_cons hok hi)
    have HBE := Lib.hid (fun i k (hik : i ≤ k) (hk : k < d.size) W (hW : RowKit.Below w.heap.size w W) => l8Best_any b off cap d rest i k W (hR.below hW) hok hik hk hcap)
    rw [hs] at HV
    clear hs hR hcap hmax hok
    go_enter Tryz.func73, Tryz.ntmps73
    go_wp2_with fail
    rw [← HWA.out]
    go_wp2_with fail
    rw [← HWB.out]
    refine (HV.out _ HBB.out).mono ?_
    rintro y w1 ⟨rfl, hb⟩
    have HO1 := Lib.hid (owns_below HO.out hb)
    have HB := Lib.hid (HBB.out.trans (hb.mono HBB.out.size))
    have e0 := (hb.cell (p := ⟨w.heap.size, 0, none⟩) hz).trans c0
    have e1 := (hb.cell (p := ⟨w.heap.size, 1, none⟩) hz).trans c1
    have hz1 : w.heap.size < w1.heap.size := Nat.lt_of_lt_of_le hz hb.size
    clear hb c0 c1
    go_wp2_with fail
    refine (HP.out _ HB.out).mono ?_
    rintro y w2 ⟨g1, g2, rfl, -, hb2, -, hg2, hb⟩
    have e0 := (hb.cell (p := ⟨w.heap.size, 0, none⟩) hz1).trans e0
    have e1 := (hb.cell (p := ⟨w.heap.size, 1, none⟩) hz1).trans e1
    have hz2 : w.heap.size < w2.heap.size := Nat.lt_of_lt_of_le hz1 hb.size
    have HL := Lib.hid hb2
    have HO2 := Lib.hid (owns_below HO1.out hb)
    have HB2 := Lib.hid (HB.out.trans (hb.mono HB.out.size))
    clear hb hb2
    have HLN := Lib.hid (show (finL d 0).length ≤ 8 by have : (finL d 0).length ≤ d.size - 0 := planL_len _ _; omega)
    obtain ⟨i0, hi, hi0, hi1, hi2⟩ := info_parts infoBp
    go_wp2_with fail
    go_loopw [4, 7] (fun v x wr => ∃ (i : Nat) (pre : List CluP), x = .int .i64 i ∧ i ≤ d.size ∧ pre ++ finL d i = finL d 0 ∧ wr.cell? ⟨w.heap.size, 0, none⟩ = some (.slice (some ⟨b, off, none⟩) d.size cap) ∧ wr.cell? ⟨w.heap.size, 1, none⟩ = some (.int .i64 rest) ∧
      Hid (wr.ownsRow w.heap.size 45 3 v pre.length (flatQ pre)) ∧ Hid (BoxF wr g2 d.size fun j => ((tabT d d.size j).2 : Int)) ∧ Hid (RowKit.Below w.heap.size w wr) ∧ w.heap.size < wr.heap.size ∧ (some w.heap.size ≠ v.ownBlock ∧ some g2 ≠ v.ownBlock ∧ v ≠ .slice none 0 0)) (fun _ x _ => d.size - (intOf x).toNat)
    case atStart => exact ⟨0, [], rfl, Nat.zero_le _, rfl, e0, e1, HO2.out, HL.out, HB2.out, hz2, (by intro h; simp [Value.ownBlock] at h), (by intro h; have h2 : w.heap.size + 1 < w1.heap.size := (HO1.out.lt _ rfl).2; simp [Value.ownBlock] at h; omega), (fun h => by cases h)⟩
    case round =>
      obtain ⟨i, pre, rfl, hi9, hpre, c0, c1, HOwn, HL, HW, hzr, hne1, hne2, hne3⟩ := hrel
      by_cases hlt : i < d.size
      · have hil : (i : Int) < (d.size : Int) := by omega
        have hii0 : (0 : Int) ≤ (i : Int) := by omega
        have ht := HT.out i hlt
        have v0 := HL.out.cell i hlt
        have g2l := HL.out.lt
        have hc := HC.out i hlt
        have hbe := fun W hW => HBE.out i (tabT d d.size i).2 ht.1 ht.2 W hW
        obtain ⟨k, hk⟩ : ∃ k, k = (tabT d d.size i).2 := ⟨_, rfl⟩
        obtain ⟨bn, hbn⟩ : ∃ z, z = bestN8 (subD d i k) := ⟨_, rfl⟩
        obtain ⟨bp, hbp⟩ : ∃ z, z = bestP8 (subD d i k) := ⟨_, rfl⟩
        rw [← hk] at ht v0 hc hbe
        rw [← hbn] at hc hbe
        rw [← hbp] at hbe
        rw [hc] at hpre
        have hpl : pre.length + 1 ≤ 8 := by
          have h1 := HLN.out
          rw [← hpre, List.length_append, List.length_cons] at h1
          omega
        have HPRE := Lib.hid hpre
        have HKK := Lib.hid hk
        clear hk hbn hbp hpre hc
        have HBE1 := Lib.hid (fun W (hW : RowKit.Below wr.heap.size wr W) => hbe W (HW.out.trans (hW.mono HW.out.size)))
        clear hbe
        have q0 := fun p : BW wr => p.cell (a := ⟨w.heap.size, 0, none⟩) hzr c0
        have q1 := fun p : BW wr => p.cell (a := ⟨w.heap.size, 1, none⟩) hzr c1
        have q2 := fun p : BW wr => p.cell (a := ⟨g2, i, none⟩) g2l v0
        obtain ⟨wo, rfl⟩ : ∃ wo, wo = wr := ⟨_, rfl⟩
        go_wp2_with fail
        refine wp_region_bw (by kernel_rfl) (by kernel_rfl) ?_
        repeat (go_big_quiet_step ((go_at_call 65; refine bw_of (HBE1.out _ (by first | assumption | exact BW.h _ | skip)))))
        refine wpQuiet_nil ?_
        rintro _ ⟨p, rfl⟩
        have v1 := q2 p
        have e2 := q0 p
        have e3 := q1 p
        have hzp : w.heap.size < p.W.heap.size := Nat.lt_of_lt_of_le hzr p.h.size
        have HLP := Lib.hid (HL.out.below p.h)
        have HOP := Lib.hid (owns_below HOwn.out p.h)
        have HWP := Lib.hid (HW.out.trans (p.h.mono HW.out.size))
        obtain ⟨W, hW⟩ : ∃ W, W = p.W := ⟨_, rfl⟩
        rw [← hW] at v1 e2 e3 hzp HLP HOP HWP ⊢
        have hg2W : g2 < W.heap.size := HLP.out.lt
        clear hW p q0 q1 q2 v0 c0 c1 HL HOwn HW hzr g2l
        have hi8 : (i : Int) ≤ 8 := by omega
        go_wp2_with (at_builtin; refine wpList_append_own_at (w := _) rfl _ _ 34 rfl w.heap.size 45 i0 (.agg #[.int .i64 0, .int .i64 0, .string ⟨#[]⟩]) 3 32 Tryz.underlying34 hi hi0 hi1 hi2 rfl (by decide) _ _ _ rfl (HOP.out.alloc _) ⟨W.heap.size, 0, none⟩ 1 1 (cellsQ (i, k, bn)) rfl rfl ?c1 ?c2 ?c3 ?c4 ?c5 ?_)
        case c1 => intro j u hj; match j, hj with | 0, hj => (simp [cellsQ] at hj; subst hj; simp [Addr.add]) | 1, hj => (simp [cellsQ] at hj; subst hj; simp [Addr.add]) | 2, hj => (simp [cellsQ] at hj; subst hj; simp [Addr.add])
        case c2 => intro u hu; simp [cellsQ] at hu; rcases hu with rfl | rfl | rfl <;> rfl
        case c3 => unfold maxLen; omega
        case c4 => omega
        case c5 => simp; omega
        intro v' w3 hown3 hgrow hnil hwhere
        have hn3 : v' ≠ .slice none 0 0 := hnil
        have hb4 : RowKit.Below w.heap.size w w3 := (HWP.out.alloc (by omega) _).grown hgrow (by simp; omega) (fun q hq => (HOP.out.lt q hq).1)
        have z3 : w.heap.size < w3.heap.size := Nat.lt_of_lt_of_le (by simp; omega) hgrow.size
        have f0 := hgrow.cell (a := ⟨w.heap.size, 0, none⟩) ((World.cell?_alloc_past _ _ _ hzp).trans e2) hne1
        have f1 := hgrow.cell (a := ⟨w.heap.size, 1, none⟩) ((World.cell?_alloc_past _ _ _ hzp).trans e3) hne1
        have f2 := hgrow.cell (a := ⟨g2, i, none⟩) ((World.cell?_alloc_past _ _ _ hg2W).trans v1) hne2
        have HL3 := Lib.hid (show BoxF w3 g2 d.size fun j => ((tabT d d.size j).2 : Int) from ⟨Nat.lt_of_lt_of_le (by simp; omega) hgrow.size, fun j hj => hgrow.cell ((World.cell?_alloc_past _ _ _ hg2W).trans (HLP.out.cell j hj)) hne2,
          fun j => (World.frozen?_of_block (hgrow.block g2 (by simp; omega) hne2)).trans ((World.frozen?_alloc_past _ _ _ hg2W).trans (HLP.out.froz j))⟩)
        have hn1 : some w.heap.size ≠ v'.ownBlock := by
          rcases hwhere with h | h
          · rw [h]; exact hne1
          · rw [h]; intro h2; simp at h2; omega
        have hn2 : some g2 ≠ v'.ownBlock := by
          rcases hwhere with h | h
          · rw [h]; exact hne2
          · rw [h]; intro h2; simp at h2; omega
        have HB4 := Lib.hid hb4
        have HO4 := Lib.hid hown3
        clear hown3 hgrow hb4 hwhere e2 e3 v1
        have hk8 : (k : Int) + 1 ≤ 9 := by omega
        go_wp2
        go_roundw
        case rel =>
          refine ⟨k + 1, pre ++ [(i, k, bn)], by go_num, by omega, ?_, f0, f1, ?_, HL3.out, HB4.out, z3, hn1, hn2, hn3⟩
          · rw [List.append_assoc]; exact HPRE.out
          · have := HO4.out
            rw [show flatQ (pre ++ [(i, k, bn)]) = flatQ pre ++ cellsQ (i, k, bn) by simp [flatQ], List.length_append, List.length_singleton]
            exact this
        case measure => simp [intOf]; omega
      · have hke : i = d.size := by omega
        have HKE := Lib.hid hke
        have HPRE := Lib.hid hpre
        have hkn : ¬ (i : Int) < (d.size : Int) := by omega
        clear hke hpre hlt
        go_wp2_with fail
        refine bodyPost_ret (v := .tuple #[u4, .bool true]) (by simp [results, Tryz.results73, go_sem]) rfl ?_
        rw [HBP.out]
        refine ⟨u4, by rw [HS.out], ?_, HW.out, hne3⟩
        have h := HPRE.out
        rw [finL_end (by have := HKE.out; omega), List.append_nil] at h
        rw [HK.out, ← h]
        exact HOwn.out
theorem specBp_any (b off cap : Nat) (d : Array CaseD) (rest : Int) (w : World) (hR : RowC w b off d) (hcap : d.size ≤ cap) (hmax : cap ≤ maxLen) :
    Calls Tryz.prog 73 #[.agg #[.slice (some ⟨b, off, none⟩) d.size cap, .int .i64 rest]] w (Bp2 w.heap.size d rest w) :=
  (specBq_any b off cap d rest w hR hcap hmax).mono fun _ _ ⟨v, h1, h2, h3, _⟩ => ⟨v, h1, h2, h3⟩
end Go.Proofs.YtjpcpiffffobcaaGreatDoor
