
/- Slices of texts that calls have made: compared, marked, found marked. -/
import Derived.Test.YtmhloojnekjfhaaDoorKsStrA
import Derived.Test.YtmhloojnekjfhaaDoorKsPagS
import Derived.Test.YtmhloojnekjfhaaDoorKsMarkS
namespace Go.Proofs.YtmhloojnekjfhaaDoor
open Go.RowKit Go.Shelf Go.Lib Go.Sort

structure HotS (W : World) (g N k m : Nat) : Prop where
  lt : g < W.heap.size
  has : ∀ t, t < N → ∃ u, W.cell? ⟨g, t, none⟩ = some u
  cold : ∀ t, t < N → W.frozen? ⟨g, t, none⟩ = false
  marked : ∀ t, t < m → W.cell? ⟨g, t, none⟩ = some (.string (markS ((k + t : Nat) : Int)))
theorem HotS.below {W W' : World} {g N k m : Nat} (h : HotS W g N k m) (hb : RowKit.Below W.heap.size W W') : HotS W' g N k m :=
  ⟨Nat.lt_of_lt_of_le h.lt hb.size, fun t ht => by obtain ⟨u, hu⟩ := h.has t ht; exact ⟨u, (hb.cell (p := ⟨g, t, none⟩) h.lt).trans hu⟩, fun t ht => (hb.frozen (p := ⟨g, t, none⟩) h.lt).trans (h.cold t ht),
    fun t ht => (hb.cell (p := ⟨g, t, none⟩) h.lt).trans (h.marked t ht)⟩
theorem HotS.set {W : World} {g N k m : Nat} (h : HotS W g N k m) (hm : m < N) : HotS (W.setCell ⟨g, m, none⟩ (.string (markS ((k + m : Nat) : Int)))) g N k (m + 1) := by
  refine ⟨by rw [World.size_setCell]; exact h.lt, fun t ht => ?_, fun t ht => by rw [World.frozen?_setCell]; exact h.cold t ht, fun t ht => ?_⟩
  · by_cases e : t = m
    · subst e
      obtain ⟨u, hu⟩ := h.has t ht
      exact ⟨_, World.cell?_setCell_same _ _ _ hu⟩
    · obtain ⟨u, hu⟩ := h.has t ht
      exact ⟨u, (World.cell?_setCell_other _ _ _ _ (fun q => e (by cases q; rfl))).trans hu⟩
  · by_cases e : t = m
    · subst e
      obtain ⟨u, hu⟩ := h.has t hm
      exact World.cell?_setCell_same _ _ _ hu
    · exact (World.cell?_setCell_other _ _ _ _ (fun q => e (by cases q; rfl))).trans (h.marked t (by omega))
theorem grownT_trans {A B C : World} {row : Option Nat} (h : A.grownBy B row) (k : B.grownBy C row) : A.grownBy C row :=
  ⟨k.os.trans h.os, k.tape.trans h.tape, k.output.trans h.output, Nat.le_trans h.size k.size, fun j hj hne => (k.block j (Nat.lt_of_lt_of_le hj h.size) hne).trans (h.block j hj hne)⟩
theorem grownT_refl (w : World) (row : Option Nat) : w.grownBy w row := ⟨rfl, rfl, rfl, Nat.le_refl _, fun _ _ _ => rfl⟩
theorem grownT_below {w w' : World} {r : Option Nat} (h : RowKit.Below w.heap.size w w') : w.grownBy w' r := ⟨h.os, h.tape, h.output, h.size, fun k hk _ => h.block k hk⟩
theorem grownT_set (w : World) (g i : Nat) (v : Value) : w.grownBy (w.setCell ⟨g, i, none⟩ v) (some g) :=
  ⟨rfl, rfl, rfl, by simp, fun k _ hne => heap_setCell_other w ⟨g, i, none⟩ k v (fun e => hne (by rw [e]))⟩

set_option maxRecDepth 100000 in
set_option maxHeartbeats 1000000 in
theorem markRowT_any (g n cap k : Nat) (w : World) (h : HotS w g n k 0) (hn : n ≤ 1048576) (hk1 : 1 ≤ k) (hk : k ≤ 9999999) :
    Calls Tryd.prog 26 #[.slice (some ⟨g, 0, none⟩) n cap, .int .i64 k] w fun x w' => x = .returned (.int .i64 ((k + n : Nat) : Int)) ∧ HotS w' g n k n ∧ w.grownBy w' (some g) := by
  have HH := Lib.hid h
  have hn' : (n : Int) ≤ 1048576 := by omega
  have hk' : (k : Int) ≤ 9999999 := by omega
  clear h
  go_enter Tryd.func26, Tryd.ntmps26
  go_wp2
  go_loopw [1, 5] (fun kv i wr => ∃ j : Nat, i = .int .i64 j ∧ kv = .int .i64 ((k + j : Nat) : Int) ∧ j ≤ n ∧ Hid (HotS wr g n k j) ∧ Hid (w.grownBy wr (some g))) (fun _ i _ => n - (Lib.intOf i).toNat)
  case atStart => exact ⟨0, rfl, rfl, Nat.zero_le _, HH.out, grownT_refl _ _⟩
  case round =>
    obtain ⟨j, rfl, rfl, hj, HM, HG⟩ := hrel
    by_cases hlt : j < n
    · have hjn : (j : Int) < (n : Int) := by omega
      have HMT := Lib.hid (markText_any (k + j) (by omega) (by omega) wr)
      obtain ⟨q, hq⟩ : ∃ q : Nat, q = k + j := ⟨_, rfl⟩
      have HQ := Lib.hid hq
      rw [← hq] at HMT ⊢
      obtain ⟨mk, hmk⟩ : ∃ mk, mk = markS (q : Int) := ⟨_, rfl⟩
      rw [← hmk] at HMT
      have HMK := Lib.hid hmk
      have hq' : (q : Int) ≤ 99999999 := by omega
      clear hq hmk
      go_wp2_with (go_at_call 62; refine HMT.out.mono ?_; rintro x w2 ⟨rfl, hb⟩; have M2 := Lib.hid (HM.out.below hb); have G2 := Lib.hid (grownT_trans HG.out (grownT_below (r := some g) hb)); obtain ⟨u0, c0⟩ := M2.out.has j hlt; have f0 := M2.out.cold j hlt; clear hb)
      go_roundw
      case rel =>
        refine ⟨j + 1, by go_num, congrArg (Value.int .i64) (by have := HQ.out; omega), by omega, ?_, grownT_trans G2.out (grownT_set _ _ _ _)⟩
        have := M2.out.set hlt
        rw [← HQ.out, ← HMK.out] at this
        exact this
      case measure => simp [Lib.intOf]; omega
    · have hjn : j = n := by omega
      subst hjn
      go_wp2_with fail
      go_ret
      exact ⟨retI (by omega), HM.out, HG.out⟩

set_option maxHeartbeats 400000 in
theorem markNilT_any (p : Option Addr) (cap k : Nat) (w : World) : Calls Tryd.prog 26 #[.slice p 0 cap, .int .i64 k] w fun x w' => x = .returned (.int .i64 k) ∧ w = w' := by
  go_enter Tryd.func26, Tryd.ntmps26
  go_wp2
  refine wp_loop_rounds 1 ?_
  rw [rounds_succ]
  go_wp2
  go_ret
  exact ⟨rfl, rfl⟩
set_option maxHeartbeats 400000 in
theorem heldNilT_any (p : Option Addr) (cap k : Nat) (w : World) : Calls Tryd.prog 28 #[.slice p 0 cap, .int .i64 k] w fun x w' => x = .returned (.int .i64 k) ∧ w = w' := by
  go_enter Tryd.func28, Tryd.ntmps28
  go_wp2
  refine wp_loop_rounds 1 ?_
  rw [rounds_succ]
  go_wp2
  go_ret
  exact ⟨rfl, rfl⟩

set_option maxRecDepth 100000 in
set_option maxHeartbeats 1000000 in
theorem heldRowT_any (g n cap k : Nat) (w : World) (h : HotS w g n k n) (hn : n ≤ 1048576) (hk1 : 1 ≤ k) (hk : k ≤ 9999999) :
    Calls Tryd.prog 28 #[.slice (some ⟨g, 0, none⟩) n cap, .int .i64 k] w fun x w' => x = .returned (.int .i64 ((k + n : Nat) : Int)) ∧ RowKit.Below w.heap.size w w' := by
  have HH := Lib.hid h
  have hn' : (n : Int) ≤ 1048576 := by omega
  have hk' : (k : Int) ≤ 9999999 := by omega
  clear h
  go_enter Tryd.func28, Tryd.ntmps28
  go_wp2
  go_loopw [1, 5] (fun kv i wr => ∃ j : Nat, i = .int .i64 j ∧ kv = .int .i64 ((k + j : Nat) : Int) ∧ j ≤ n ∧ Hid (RowKit.Below w.heap.size w wr)) (fun _ i _ => n - (Lib.intOf i).toNat)
  case atStart => exact ⟨0, rfl, rfl, Nat.zero_le _, Below.refl _ _⟩
  case round =>
    obtain ⟨j, rfl, rfl, hj, HW⟩ := hrel
    by_cases hlt : j < n
    · have hjn : (j : Int) < (n : Int) := by omega
      have HMT := Lib.hid (fun W => markText_any (k + j) (by omega) (by omega) W)
      have c0 := (HH.out.below HW.out).marked j hlt
      have hgl := Nat.lt_of_lt_of_le HH.out.lt HW.out.size
      obtain ⟨q, hq⟩ : ∃ q : Nat, q = k + j := ⟨_, rfl⟩
      have HQ := Lib.hid hq
      rw [← hq] at HMT c0 ⊢
      obtain ⟨mk, hmk⟩ : ∃ mk, mk = markS (q : Int) := ⟨_, rfl⟩
      rw [← hmk] at HMT c0
      have hq' : (q : Int) ≤ 99999999 := by omega
      have r0 := fun p : BW wr => p.cell (a := ⟨g, j, none⟩) hgl c0
      have hzr := HW.out.size
      clear hq hmk
      go_wp2_with fail
      clear c0
      refine wp_region_bw (by kernel_rfl) (by kernel_rfl) ?_
      repeat (go_big_quiet_step ((go_at_call 62; refine bw_of (HMT.out _))))
      refine wpQuiet_nil ?_
      rintro _ ⟨t, rfl⟩
      have HB3 := Lib.hid (HW.out.trans (t.h.mono hzr))
      clear r0
      go_wp2_with fail
      go_roundw
      case rel => exact ⟨j + 1, by go_num, congrArg (Value.int .i64) (by have := HQ.out; omega), by omega, HB3⟩
      case measure => simp [Lib.intOf]; omega
    · have hjn : j = n := by omega
      subst hjn
      go_wp2_with fail
      go_ret
      exact ⟨retI (by omega), HW.out⟩

set_option maxHeartbeats 400000 in
theorem eqNilT_any (p q : Option Addr) (c1 c2 : Nat) (w : World) : Calls Tryd.prog 22 #[.slice p 0 c1, .slice q 0 c2] w fun x w' => x = .returned (.bool true) ∧ w = w' := by
  go_enter Tryd.func22, Tryd.ntmps22
  go_wp2
  refine wp_loop_rounds 1 ?_
  rw [rounds_succ]
  go_wp2
  go_ret
  exact ⟨rfl, rfl⟩

/-! owned slices -/
theorem ownsT_row {base : Nat} {v : Value} {l : List ByteArray} {w : World} (h : OwnsT base v l w) : (v = .slice none 0 0 ∧ l.length = 0) ∨ ∃ g cap, v = .slice (some ⟨g, 0, none⟩) l.length cap ∧ RowT w g 0 l.toArray ∧ HotS w g l.length 1 0 := by
  have h' := h
  unfold OwnsT at h'
  rcases h.2 with ⟨h0, h1⟩ | ⟨g, cap, cur, h0, hb, hh, h3⟩
  · exact .inl ⟨h0, h1⟩
  · have hl : g < w.heap.size := (Array.getElem?_eq_some_iff.1 hh).1
    subst h0
    have hc : ∀ t, t < l.length → w.cell? ⟨g, t, none⟩ = some (.string l.toArray[t]!) := fun t ht => by
      rw [World.ownsRow.cellAt h' t (by simpa using ht)]
      simp [ht, encS]
    refine .inr ⟨g, cap, rfl, ⟨hl, fun j hj => ?_⟩, ⟨hl, fun t ht => ⟨_, hc t ht⟩, fun t _ => by simp [World.frozen?, hh], fun t ht => absurd ht (Nat.not_lt_zero t)⟩⟩
    rw [Nat.zero_add]
    exact hc j (by simpa using hj)
theorem eqOwnT_any {b1 b2 : Nat} {v1 v2 : Value} {l : List ByteArray} {w : World} (h1 : OwnsT b1 v1 l w) (h2 : OwnsT b2 v2 l w) (hn : l.length ≤ 1048576) :
    Calls Tryd.prog 22 #[v1, v2] w fun x w' => x = .returned (.bool true) ∧ RowKit.Below w.heap.size w w' := by
  by_cases h0 : l.length = 0
  · have n1 : ∃ p c, v1 = .slice p 0 c := by
      rcases ownsT_row h1 with ⟨h, _⟩ | ⟨g, c, h, _⟩
      · exact ⟨_, _, h⟩
      · exact ⟨some ⟨g, 0, none⟩, c, by rw [h, h0]⟩
    have n2 : ∃ p c, v2 = .slice p 0 c := by
      rcases ownsT_row h2 with ⟨h, _⟩ | ⟨g, c, h, _⟩
      · exact ⟨_, _, h⟩
      · exact ⟨some ⟨g, 0, none⟩, c, by rw [h, h0]⟩
    obtain ⟨p, c, rfl⟩ := n1
    obtain ⟨q, e, rfl⟩ := n2
    exact (eqNilT_any p q c e w).mono fun _ _ ⟨a, b⟩ => ⟨a, b ▸ Below.refl _ _⟩
  · rcases ownsT_row h1 with ⟨_, h⟩ | ⟨g1, c1, rfl, r1, _⟩
    · exact absurd h h0
    · rcases ownsT_row h2 with ⟨_, h⟩ | ⟨g2, c2, rfl, r2, _⟩
      · exact absurd h h0
      · have := eqStringS_same g1 c1 g2 c2 l.toArray w r1 r2 (by simpa using hn)
        simpa using this
/-- What a slice of texts holds is marked. -/
def MarkedT (w : World) (v : Value) (n : Nat) : Prop := ∀ g, v.ownBlock = some g → HotS w g n 1 n
theorem MarkedT.below {w w' : World} {v : Value} {n : Nat} (h : MarkedT w v n) (hb : RowKit.Below w.heap.size w w') : MarkedT w' v n := fun g hg => (h g hg).below hb
theorem markOwnT_any {base : Nat} {v : Value} {l : List ByteArray} {w : World} (h : OwnsT base v l w) (hn : l.length ≤ 1048576) :
    Calls Tryd.prog 26 #[v, .int .i64 1] w fun x w' => x = .returned (.int .i64 ((1 + l.length : Nat) : Int)) ∧ MarkedT w' v l.length ∧ w.grownBy w' v.ownBlock := by
  rcases ownsT_row h with ⟨rfl, h0⟩ | ⟨g, cap, rfl, _, hh⟩
  · rw [h0]
    exact (markNilT_any none 0 1 w).mono fun _ _ ⟨a, b⟩ => ⟨a, (fun g hg => by cases hg), (by rw [← b]; exact grownT_refl _ _)⟩
  · exact (markRowT_any g l.length cap 1 w hh hn (by omega) (by omega)).mono fun _ _ ⟨a, b, c⟩ => ⟨a, (fun g' hg => by cases hg; exact b), c⟩
def FormT (v : Value) (n : Nat) : Prop := (v = .slice none 0 0 ∧ n = 0) ∨ ∃ g cap, v = .slice (some ⟨g, 0, none⟩) n cap
theorem owns_formT {base : Nat} {v : Value} {l : List ByteArray} {w : World} (h : OwnsT base v l w) : FormT v l.length := by
  rcases ownsT_row h with h0 | ⟨g, cap, h0, _⟩
  · exact .inl h0
  · exact .inr ⟨g, cap, h0⟩
theorem heldOwnT_any {v : Value} {n : Nat} {w : World} (hf : FormT v n) (h : MarkedT w v n) (hn : n ≤ 1048576) :
    Calls Tryd.prog 28 #[v, .int .i64 1] w fun x w' => x = .returned (.int .i64 ((1 + n : Nat) : Int)) ∧ RowKit.Below w.heap.size w w' := by
  rcases hf with ⟨rfl, rfl⟩ | ⟨g, cap, rfl⟩
  · exact (heldNilT_any none 0 1 w).mono fun _ _ ⟨a, b⟩ => ⟨a, b ▸ Below.refl _ _⟩
  · exact heldRowT_any g n cap 1 w (h g rfl) hn (by omega) (by omega)
end Go.Proofs.YtmhloojnekjfhaaDoor
