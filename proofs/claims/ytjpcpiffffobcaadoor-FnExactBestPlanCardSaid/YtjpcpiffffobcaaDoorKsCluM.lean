
/- Slices of clusters that calls have made: compared, marked, found marked. -/
import Derived.Test.YtjpcpiffffobcaaDoorKsMark
import Derived.Test.YtjpcpiffffobcaaDoorKsClu
import Derived.Test.YtjpcpiffffobcaaDoorKsTailC
namespace Go.Proofs.YtjpcpiffffobcaaDoor
open Go.RowKit Go.Shelf Go.Lib Go.Sort

abbrev CluP := Nat × Nat × ByteArray
def OwnsQ (base : Nat) (v : Value) (l : List CluP) (w : World) : Prop := w.ownsRow base 34 3 v l.length (flatQ l)
theorem flatQ_length (l : List CluP) : (flatQ l).length = l.length * 3 := by
  induction l with
  | nil => rfl
  | cons c l ih => rw [flatQ_cons, List.length_append, ih, List.length_cons]; show 3 + l.length * 3 = _; omega
def cluOf (c : CluP) : CluD := ⟨c.1, c.2.1, c.2.2⟩
theorem flatQ_get : ∀ (l : List CluP) (j : Nat) (_ : j < l.length) (r : Nat) (_ : r < 3), (flatQ l)[j * 3 + r]? = (encQ ((l.map cluOf).toArray[j]!))[r]?
  | [], _, h, _, _ => absurd h (Nat.not_lt_zero _)
  | c :: l, 0, _, r, hr => by
    rw [flatQ_cons, Nat.zero_mul, Nat.zero_add, List.getElem?_append_left (by show r < 3; exact hr)]
    simp [cluOf, encQ, cellsQ]
  | c :: l, j + 1, h, r, hr => by
    have hl : j < l.length := by simpa using h
    have := flatQ_get l j hl r hr
    rw [flatQ_cons, List.getElem?_append_right (by show 3 ≤ _; omega), show (j + 1) * 3 + r - (cellsQ c).length = j * 3 + r by show (j + 1) * 3 + r - 3 = _; omega, this]
    simp
theorem ownsQ_zero {base : Nat} {p : Option Addr} {n cap : Nat} {l : List CluP} {w : World} (h : OwnsQ base (.slice p n cap) l w) : n = l.length := by
  rcases h.2 with ⟨h0, h1⟩ | ⟨g, c, cur, h0, _⟩
  · simp only [Value.slice.injEq] at h0
    omega
  · simp only [Value.slice.injEq] at h0
    exact h0.2.1
theorem ownsQ_row {base g n cap : Nat} {l : List CluP} {w : World} (h : OwnsQ base (.slice (some ⟨g, 0, none⟩) n cap) l w) : RowQ w g 0 (l.map cluOf).toArray := by
  have hl := (World.ownsRow.lt h g rfl).2
  have hzz := ownsQ_zero h
  subst hzz
  have hs : (l.map cluOf).toArray.size = l.length := by simp
  have hc : ∀ j r, j < l.length → r < 3 → w.cell? ⟨g, 0 + j * 3 + r, none⟩ = (encQ ((l.map cluOf).toArray[j]!))[r]? := fun j r hj hr => by
    have h1 := World.ownsRow.cellAt (show w.ownsRow base 34 3 (.slice (some ⟨g, 0, none⟩) l.length cap) l.length (flatQ l) from h) (j * 3 + r) (by omega)
    rw [flatQ_get l j hj r hr] at h1
    rw [Nat.zero_add]
    exact h1
  exact ⟨hl, fun j hj => hc j 0 (by omega) (by omega), fun j hj => hc j 1 (by omega) (by omega), fun j hj => hc j 2 (by omega) (by omega)⟩
def markVQ (k : Nat) (t : Nat) : Value := if t % 3 = 2 then .string (markS ((k + t : Nat) : Int)) else .int .i64 ((k + t : Nat) : Int)
structure HotQ (W : World) (g N k m : Nat) : Prop where
  lt : g < W.heap.size
  has : ∀ t, t < N → ∃ u, W.cell? ⟨g, t, none⟩ = some u
  cold : ∀ t, t < N → W.frozen? ⟨g, t, none⟩ = false
  marked : ∀ t, t < m → W.cell? ⟨g, t, none⟩ = some (markVQ k t)
theorem HotQ.below {W W' : World} {g N k m : Nat} (h : HotQ W g N k m) (hb : RowKit.Below W.heap.size W W') : HotQ W' g N k m :=
  ⟨Nat.lt_of_lt_of_le h.lt hb.size, fun t ht => by obtain ⟨u, hu⟩ := h.has t ht; exact ⟨u, (hb.cell (p := ⟨g, t, none⟩) h.lt).trans hu⟩, fun t ht => (hb.frozen (p := ⟨g, t, none⟩) h.lt).trans (h.cold t ht),
    fun t ht => (hb.cell (p := ⟨g, t, none⟩) h.lt).trans (h.marked t ht)⟩
theorem HotQ.set {W : World} {g N k m : Nat} (h : HotQ W g N k m) (hm : m < N) : HotQ (W.setCell ⟨g, m, none⟩ (markVQ k m)) g N k (m + 1) := by
  refine ⟨by rw [World.size_setCell]; exact h.lt, fun t ht => ?_, fun t ht => by rw [World.frozen?_setCell]; exact h.cold t ht, fun t ht => ?_⟩
  · by_cases e : t = m
    · subst e
      obtain ⟨u, hu⟩ := h.has t ht
      exact ⟨_, World.cell?_setCell_same _ _ _ hu⟩
    · obtain ⟨u, hu⟩ := h.has t ht
      exact ⟨u, (World.cell?_setCell_other _ _ _ _ (fun q => e (by cases q; rfl))).trans hu⟩
  · by_cases e : t = m
    · subst e
      obtain ⟨u, hu⟩ := h.has t hm
      exact World.cell?_setCell_same _ _ _ hu
    · exact (World.cell?_setCell_other _ _ _ _ (fun q => e (by cases q; rfl))).trans (h.marked t (by omega))
set_option maxRecDepth 100000 in
set_option maxHeartbeats 2000000 in
theorem markRowQ_any (g n cap : Nat) (w : World) (h : HotQ w g (n * 3) 1 0) (hn : n ≤ 1048576) :
    Calls Tryd.prog 31 #[.slice (some ⟨g, 0, none⟩) n cap, .int .i64 1] w fun x w' => x = .returned (.int .i64 ((1 + n * 3 : Nat) : Int)) ∧ HotQ w' g (n * 3) 1 (n * 3) ∧ w.grownBy w' (some g) := by
  have HH := Lib.hid h
  have hn' : (n : Int) ≤ 1048576 := by omega
  clear h
  go_enter Tryd.func31, Tryd.ntmps31
  go_wp2
  go_loopw [1, 5] (fun kv i wr => ∃ j : Nat, i = .int .i64 j ∧ kv = .int .i64 ((1 + j * 3 : Nat) : Int) ∧ j ≤ n ∧ Hid (HotQ wr g (n * 3) 1 (j * 3)) ∧ Hid (w.grownBy wr (some g))) (fun _ i _ => n - (intOf i).toNat)
  case atStart => exact ⟨0, rfl, rfl, Nat.zero_le _, HH.out, grown_refl _ _⟩
  case round =>
    obtain ⟨j, rfl, rfl, hj, HM, HG⟩ := hrel
    by_cases hlt : j < n
    · have hj0 : (0 : Int) ≤ (j : Int) := by omega
      have hjn : (j : Int) < (n : Int) := by omega
      obtain ⟨u0, c0⟩ := HM.out.has (j * 3) (by omega)
      have f0 := HM.out.cold (j * 3) (by omega)
      have M1 := Lib.hid (HM.out.set (by omega))
      obtain ⟨u1, c1⟩ := M1.out.has (j * 3 + 1) (by omega)
      have f1 := M1.out.cold (j * 3 + 1) (by omega)
      have M2 := Lib.hid (M1.out.set (by omega))
      have G2 := Lib.hid (grown_trans HG.out (grown_trans (grown_set wr g (j * 3) (markVQ 1 (j * 3))) (grown_set _ g (j * 3 + 1) (markVQ 1 (j * 3 + 1)))))
      have e0 : markVQ 1 (j * 3) = .int .i64 (1 + (j : Int) * 3) := by unfold markVQ; rw [if_neg (by omega)]; exact congrArg (Value.int .i64) (by omega)
      have e1 : markVQ 1 (j * 3 + 1) = .int .i64 (1 + (j : Int) * 3 + 1) := by unfold markVQ; rw [if_neg (by omega)]; exact congrArg (Value.int .i64) (by omega)
      obtain ⟨z, hz⟩ : ∃ z, z = markS ((1 + (j * 3 + 2) : Nat) : Int) := ⟨_, rfl⟩
      have E2 := Lib.hid (show markVQ 1 (j * 3 + 2) = .string z by unfold markVQ; rw [if_pos (by omega), hz])
      have ec : (((1 + (j * 3 + 2) : Nat) : Int)) = 1 + (j : Int) * 3 + 1 + 1 := by omega
      have hmt := fun W => markText_any (1 + (j * 3 + 2)) (by omega) (by omega) W
      rw [← hz, ec] at hmt
      have HMT := Lib.hid hmt
      rw [e0] at c1 f1
      rw [e0, e1] at M2 G2
      clear e0 e1 M1 hz ec hmt
      go_wp2_with (go_at_call 57; refine (HMT.out _).mono ?_; rintro x w2 ⟨rfl, hb⟩; have M3 := Lib.hid (M2.out.below hb); have G3 := Lib.hid (grown_trans G2.out (grown_any hb _)); obtain ⟨u2, c2⟩ := M3.out.has (j * 3 + 2) (by omega); have f2 := M3.out.cold (j * 3 + 2) (by omega); have M4 := Lib.hid (M3.out.set (by omega)); rw [E2.out] at M4; clear hb)
      go_roundw
      case rel =>
        refine ⟨j + 1, by go_num, congrArg (Value.int .i64) (by omega), by omega, ?_, ?_⟩
        · show HotQ _ _ _ _ _
          rw [show (j + 1) * 3 = j * 3 + 2 + 1 by omega]
          exact M4.out
        · exact grown_trans G3.out (grown_set _ g (j * 3 + 2) _)
      case measure => simp [intOf]; omega
    · have hjn : j = n := by omega
      have HJ := Lib.hid hjn
      clear hjn
      go_wp2_with fail
      go_ret
      refine ⟨retI (by rw [HJ.out]), ?_, HG.out⟩
      have := HM.out
      rw [HJ.out] at this
      exact this

set_option maxHeartbeats 400000 in
theorem markNilQ_any (p : Option Addr) (cap : Nat) (w : World) : Calls Tryd.prog 31 #[.slice p 0 cap, .int .i64 1] w fun x w' => x = .returned (.int .i64 1) ∧ w = w' := by
  go_enter Tryd.func31, Tryd.ntmps31
  go_wp2
  refine wp_loop_rounds 1 ?_
  rw [rounds_succ]
  go_wp2
  go_ret
  exact ⟨rfl, rfl⟩
set_option maxHeartbeats 400000 in
theorem heldNilQ_any (p : Option Addr) (cap : Nat) (w : World) : Calls Tryd.prog 32 #[.slice p 0 cap, .int .i64 1] w fun x w' => x = .returned (.int .i64 1) ∧ w = w' := by
  go_enter Tryd.func32, Tryd.ntmps32
  go_wp2
  refine wp_loop_rounds 1 ?_
  rw [rounds_succ]
  go_wp2
  go_ret
  exact ⟨rfl, rfl⟩

set_option maxRecDepth 100000 in
set_option maxHeartbeats 2000000 in
theorem heldRowQ_any (g n cap : Nat) (w : World) (h : HotQ w g (n * 3) 1 (n * 3)) (hn : n ≤ 1048576) :
    Calls Tryd.prog 32 #[.slice (some ⟨g, 0, none⟩) n cap, .int .i64 1] w fun x w' => x = .returned (.int .i64 ((1 + n * 3 : Nat) : Int)) ∧ RowKit.Below w.heap.size w w' := by
  have HH := Lib.hid h
  have hn' : (n : Int) ≤ 1048576 := by omega
  clear h
  go_enter Tryd.func32, Tryd.ntmps32
  go_wp2
  go_loopw [1, 5] (fun kv i wr => ∃ j : Nat, i = .int .i64 j ∧ kv = .int .i64 ((1 + j * 3 : Nat) : Int) ∧ j ≤ n ∧ Hid (RowKit.Below w.heap.size w wr)) (fun _ i _ => n - (intOf i).toNat)
  case atStart => exact ⟨0, rfl, rfl, Nat.zero_le _, Below.refl _ _⟩
  case round =>
    obtain ⟨j, rfl, rfl, hj, HW⟩ := hrel
    by_cases hlt : j < n
    · have hj0 : (0 : Int) ≤ (j : Int) := by omega
      have hjn : (j : Int) < (n : Int) := by omega
      have HM := Lib.hid (HH.out.below HW.out)
      have c0 := HM.out.marked (j * 3) (by omega)
      have c1 := HM.out.marked (j * 3 + 1) (by omega)
      have c2 := HM.out.marked (j * 3 + 2) (by omega)
      have e0 : markVQ 1 (j * 3) = .int .i64 (1 + (j : Int) * 3) := by unfold markVQ; rw [if_neg (by omega)]; exact congrArg (Value.int .i64) (by omega)
      have e1 : markVQ 1 (j * 3 + 1) = .int .i64 (1 + (j : Int) * 3 + 1) := by unfold markVQ; rw [if_neg (by omega)]; exact congrArg (Value.int .i64) (by omega)
      obtain ⟨z, hz⟩ : ∃ z, z = markS ((1 + (j * 3 + 2) : Nat) : Int) := ⟨_, rfl⟩
      have e2 : markVQ 1 (j * 3 + 2) = .string z := by unfold markVQ; rw [if_pos (by omega), hz]
      have ec : (((1 + (j * 3 + 2) : Nat) : Int)) = 1 + (j : Int) * 3 + 1 + 1 := by omega
      have hmt := fun W => markText_any (1 + (j * 3 + 2)) (by omega) (by omega) W
      rw [← hz, ec] at hmt
      have HMT := Lib.hid hmt
      rw [e0] at c0
      rw [e1] at c1
      rw [e2] at c2
      have hgl := HM.out.lt
      have q2 := fun p : BW wr => p.cell (a := ⟨g, j * 3 + 2, none⟩) hgl c2
      clear e0 e1 e2 hz ec hmt
      have hs1 : (0 : Int) ≤ (j : Int) := hj0
      go_wp2_with fail
      refine wp_region_bw (by kernel_rfl) (by kernel_rfl) ?_
      repeat (go_big_quiet_step ((go_at_call 57; refine bw_of (HMT.out _))))
      refine wpQuiet_nil ?_
      rintro _ ⟨p, rfl⟩
      go_wp2
      go_roundw
      case rel => exact ⟨j + 1, by go_num, congrArg (Value.int .i64) (by omega), by omega, HW.out.trans (p.h.mono HW.out.size)⟩
      case measure => simp [intOf]; omega
    · have hjn : j = n := by omega
      have HJ := Lib.hid hjn
      clear hjn
      go_wp2_with fail
      go_ret
      exact ⟨retI (by rw [HJ.out]), HW.out⟩
set_option maxHeartbeats 400000 in
theorem eqNilQ_any (p q : Option Addr) (c1 c2 : Nat) (w : World) : Calls Tryd.prog 25 #[.slice p 0 c1, .slice q 0 c2] w fun x w' => x = .returned (.bool true) ∧ w = w' := by
  go_enter Tryd.func25, Tryd.ntmps25
  go_wp2
  refine wp_loop_rounds 1 ?_
  rw [rounds_succ]
  go_wp2
  go_ret
  exact ⟨rfl, rfl⟩

def FormQ (v : Value) (n : Nat) : Prop := (v = .slice none 0 0 ∧ n = 0) ∨ ∃ g cap, v = .slice (some ⟨g, 0, none⟩) n cap
theorem owns_formQ {base : Nat} {v : Value} {l : List CluP} {w : World} (h : OwnsQ base v l w) : FormQ v l.length := by
  rcases h.2 with h0 | ⟨g, cap, cur, h0, _⟩
  · exact .inl h0
  · exact .inr ⟨g, cap, h0⟩
theorem eqOwnQ_any {b1 b2 : Nat} {v1 v2 : Value} {l : List CluP} {w : World} (h1 : OwnsQ b1 v1 l w) (h2 : OwnsQ b2 v2 l w) (hn : l.length ≤ 1048576) :
    Calls Tryd.prog 25 #[v1, v2] w fun x w' => x = .returned (.bool true) ∧ RowKit.Below w.heap.size w w' := by
  by_cases h0 : l.length = 0
  · have n1 : ∃ p c, v1 = .slice p 0 c := by
      rcases owns_formQ h1 with ⟨h, _⟩ | ⟨g, c, h⟩
      · exact ⟨_, _, h⟩
      · exact ⟨some ⟨g, 0, none⟩, c, by rw [h, h0]⟩
    have n2 : ∃ p c, v2 = .slice p 0 c := by
      rcases owns_formQ h2 with ⟨h, _⟩ | ⟨g, c, h⟩
      · exact ⟨_, _, h⟩
      · exact ⟨some ⟨g, 0, none⟩, c, by rw [h, h0]⟩
    obtain ⟨p, c, rfl⟩ := n1
    obtain ⟨q, e, rfl⟩ := n2
    exact (eqNilQ_any p q c e w).mono fun _ _ ⟨a, b⟩ => ⟨a, b ▸ Below.refl _ _⟩
  · rcases owns_formQ h1 with ⟨_, h⟩ | ⟨g1, c1, rfl⟩
    · exact absurd h h0
    · rcases owns_formQ h2 with ⟨_, h⟩ | ⟨g2, c2, rfl⟩
      · exact absurd h h0
      · have := eqClusterS_same g1 0 c1 g2 0 c2 (l.map cluOf).toArray w (ownsQ_row h1) (ownsQ_row h2) (by simpa using hn)
        simpa using this

/-- What a slice value holds is marked. -/
def MarkedQ (w : World) (v : Value) (n : Nat) : Prop := ∀ g, v.ownBlock = some g → HotQ w g (n * 3) 1 (n * 3)
theorem MarkedQ.below {w w' : World} {v : Value} {n : Nat} (h : MarkedQ w v n) (hb : RowKit.Below w.heap.size w w') : MarkedQ w' v n := fun g hg => (h g hg).below hb
theorem hotQ_of_owns {base g n cap : Nat} {l : List CluP} {w : World} (h : OwnsQ base (.slice (some ⟨g, 0, none⟩) n cap) l w) : HotQ w g (n * 3) 1 0 := by
  have hn := ownsQ_zero h
  have hl := (World.ownsRow.lt h g rfl).2
  subst hn
  refine ⟨hl, fun t ht => ?_, fun t _ => ?_, fun t ht => absurd ht (Nat.not_lt_zero t)⟩
  · have hf := flatQ_length l
    exact ⟨_, (World.ownsRow.cellAt h t ht).trans (List.getElem?_eq_getElem (by omega))⟩
  · rcases h.2 with ⟨h0, _⟩ | ⟨g', c, cur, h0, _, hh, _⟩
    · cases h0
    · simp only [Value.slice.injEq, Option.some.injEq, Addr.mk.injEq] at h0
      rw [← h0.1.1] at hh
      simp [World.frozen?, hh]
theorem markOwnQ_any {base : Nat} {v : Value} {l : List CluP} {w : World} (h : OwnsQ base v l w) (hn : l.length ≤ 1048576) :
    Calls Tryd.prog 31 #[v, .int .i64 1] w fun x w' => x = .returned (.int .i64 ((1 + l.length * 3 : Nat) : Int)) ∧ MarkedQ w' v l.length ∧ w.grownBy w' v.ownBlock := by
  rcases owns_formQ h with ⟨rfl, h0⟩ | ⟨g, cap, rfl⟩
  · rw [h0]
    exact (markNilQ_any none 0 w).mono fun _ _ ⟨a, b⟩ => ⟨a, (fun g hg => by cases hg), (by rw [← b]; exact grown_refl _ _)⟩
  · exact (markRowQ_any g l.length cap w (hotQ_of_owns h) hn).mono fun _ _ ⟨a, b, c⟩ => ⟨a, (fun g' hg => by cases hg; exact b), c⟩
theorem heldOwnQ_any {v : Value} {n : Nat} {w : World} (hf : FormQ v n) (h : MarkedQ w v n) (hn : n ≤ 1048576) :
    Calls Tryd.prog 32 #[v, .int .i64 1] w fun x w' => x = .returned (.int .i64 ((1 + n * 3 : Nat) : Int)) ∧ RowKit.Below w.heap.size w w' := by
  rcases hf with ⟨rfl, rfl⟩ | ⟨g, cap, rfl⟩
  · exact (heldNilQ_any none 0 w).mono fun _ _ ⟨a, b⟩ => ⟨a, b ▸ Below.refl _ _⟩
  · exact heldRowQ_any g n cap w (h g rfl) hn
end Go.Proofs.YtjpcpiffffobcaaDoor
