
/- The laws' copy of an argument, once more: what it lays can be written. -/
import Derived.Test.YtjpcpiffffobcaaDoorKsOwnEq
namespace Go.Proofs.YtjpcpiffffobcaaDoor
open Go.RowKit Go.Shelf Go.Lib Go.Sort

theorem hot_of_holds {w : World} {g : Nat} {q : Array CaseD} (h : HoldsK encC 4 w g 0 q) (hg : g < w.heap.size) : HotM w g (q.size * 4) 1 0 := by
  refine ⟨hg, fun t ht => ?_, fun t ht => ?_, fun t ht => absurd ht (Nat.not_lt_zero t)⟩
  · have := (h t (by rw [size_flatK]; exact ht)).1
    rw [Nat.zero_add] at this
    exact ⟨_, this⟩
  · have := (h t (by rw [size_flatK]; exact ht)).2
    rw [Nat.zero_add] at this
    exact this
theorem HotM.other {W : World} {g N k m : Nat} (h : HotM W g N k m) {a : Addr} (ha : a.block ≠ g) (u : Value) : HotM (W.setCell a u) g N k m := by
  have e : ∀ o, (W.setCell a u).cell? ⟨g, o, none⟩ = W.cell? ⟨g, o, none⟩ := fun o => World.cell?_of_block (Below.heap_setCell W a u g (fun h => ha h.symm))
  exact ⟨by rw [World.size_setCell]; exact h.lt, fun t ht => by obtain ⟨v, hv⟩ := h.has t ht; exact ⟨v, (e t).trans hv⟩, fun t ht => by rw [World.frozen?_setCell]; exact h.cold t ht, fun t ht => (e t).trans (h.marked t ht)⟩
def RowH (W : World) (g : Nat) (d : Array CaseD) : Prop := RowC W g 0 d ∧ HotM W g (d.size * 4) 1 0
theorem RowH.setCell {W : World} {g : Nat} {d : Array CaseD} (h : RowH W g d) {a : Addr} (ha : a.block ≠ g) (u : Value) : RowH (W.setCell a u) g d := ⟨h.1.setCell ha u, h.2.other ha u⟩
theorem RowH.below {W W' : World} {g : Nat} {d : Array CaseD} (h : RowH W g d) (hb : RowKit.Below W.heap.size W W') : RowH W' g d := ⟨h.1.below hb, h.2.below hb⟩
/-- A fresh slice that holds the cases and can be written. -/
def FreshH (n : Nat) (d : Array CaseD) (w w' : World) (g : Nat) : Prop := n ≤ g ∧ RowH w' g d ∧ RowKit.Below w.heap.size w w'

set_option maxRecDepth 100000 in
set_option maxHeartbeats 400000 in
theorem toCaseS_rowH (b off cap : Nat) (d : Array CaseD) (w : World) (hR : RowC w b off d) (hn : d.size ≤ 1048576) :
    Calls Tryd.prog 41 #[.slice (some ⟨b, off, none⟩) d.size cap] w fun x w' =>
      ∃ g, x = .returned (.slice (some ⟨g, 0, none⟩) d.size d.size) ∧ w.heap.size ≤ g ∧ (RowC w' g 0 d ∧ HotM w' g (d.size * 4) 1 0) ∧ RowKit.Below w.heap.size w w' := by
  have HR := Lib.hid hR
  clear hR
  have hn' : (d.size : Int) ≤ 1048576 := by omega
  have hmk := run_makeC d.size hn
  go_enter Tryd.func41, Tryd.ntmps41
  go_wp2
  have hH0 := made_holds d.size w w.heap.size rfl
  obtain ⟨wa, hwa⟩ : ∃ wa, wa = w.alloc (.cells (madeCells zeroCells (d.size * 4)) 90) := ⟨_, rfl⟩
  rw [← hwa] at hH0
  have hz : w.heap.size < wa.heap.size := by rw [hwa]; simp
  have hba : RowKit.Below w.heap.size w wa := by rw [hwa]; exact (Below.refl _ _).alloc (Nat.le_refl _) _
  rw [← hwa]
  have HH0 := Lib.hid hH0
  have HB := Lib.hid hba
  clear hwa hba hH0 hmk
  obtain ⟨g, hg⟩ : ∃ g, g = w.heap.size := ⟨_, rfl⟩
  rw [← hg] at HH0 hz ⊢
  have HG := Lib.hid hg
  clear hg
  go_loopw [4] (fun i wr => ∃ (k : Nat) (q : Array CaseD), i = .int .i64 k ∧ k ≤ d.size ∧ Hid (q.size = d.size) ∧ Hid (HoldsK encC 4 wr g 0 q) ∧ Hid (∀ j, j < k → q[j]! = d[j]!) ∧ Hid (RowKit.Below w.heap.size w wr) ∧ wa.heap.size ≤ wr.heap.size) (fun i _ => d.size - (intOf i).toNat)
  case atStart => exact ⟨0, _, rfl, Nat.zero_le _, by simp [Hid], HH0.out, fun j hj => absurd hj (Nat.not_lt_zero _), HB.out, Nat.le_refl _⟩
  case round =>
    obtain ⟨k, q, rfl, hk, HQ, HH, HE, HW, hw2⟩ := hrel
    by_cases hlt : k < d.size
    · have hx := HR.out.below HW.out
      have x0 := hx.low k hlt
      have x1 := hx.high k hlt
      have x2 := hx.target k hlt
      have x3 := hx.weight k hlt
      clear hx
      obtain ⟨x, hxe⟩ : ∃ x, x = d[k]! := ⟨_, rfl⟩
      rw [← hxe] at x0 x1 x2 x3
      have XE := Lib.hid hxe
      clear hxe
      have hcall := toCase_any x wr
      obtain ⟨cx, hcx⟩ : ∃ c, c = encC x := ⟨_, rfl⟩
      have hag : aggC x = .agg cx.toArray := by rw [hcx]; rfl
      have hcall2 : Calls Tryd.prog 65 #[aggC x] wr fun x w' => x = .returned (.agg cx.toArray) ∧ RowKit.Below wr.heap.size wr w' := by rw [← hag]; exact hcall
      have HCL := Lib.hid hcall2
      have CX := Lib.hid hcx
      clear hcall hcall2 hag hcx
      have hlen : cx.length = 4 := by rw [CX.out]; rfl
      have hgr : g < wr.heap.size := by omega
      have hqk : k < q.size := by rw [HQ.out]; exact hlt
      go_wp2_with (go_at_call 65; refine HCL.out.mono ?_; rintro y w' ⟨rfl, hb⟩; have hst := holds_store (holdsK_below HH.out hgr hb) k x hqk; rw [← CX.out, Nat.zero_add] at hst; have HST := Lib.hid hst.1; replace hst := hst.2)
      go_roundw
      case rel =>
        have hb2 := below_setCells cx w' g (k * 4) (HW.out.trans (hb.mono (Nat.le_trans (Nat.le_trans (Nat.le_of_lt_succ (by have := HG.out; omega)) (Nat.le_refl _)) (Nat.le_refl _)))) (Nat.le_of_eq HG.out.symm)
        refine ⟨k + 1, q.setIfInBounds k x, by go_num, by omega, (show _ = _ by simpa using HQ.out), HST.out, (show Hid _ from fun j hj => ?_), hb2, ?_⟩
        · by_cases e : j = k
          · subst e
            rw [getElem!_set_same _ _ _ hqk]
            exact XE.out
          · rw [getElem!_set_other _ _ _ _ e]
            exact HE.out j (by omega)
        · rw [size_setCells]
          exact Nat.le_trans hw2 hb.size
      case measure => simp [intOf]; omega
    · go_wp2
      go_ret
      refine ⟨g, rfl, Nat.le_of_eq HG.out.symm, ?_, HW.out⟩
      have e : q = d := Array.ext HQ.out fun j h1 h2 => by
        have := HE.out j (by omega)
        simpa [h1, h2] using this
      rw [← e]
      exact ⟨RowC.of_holds HH.out (by omega), hot_of_holds HH.out (by omega)⟩

theorem toCaseS_hot (v : Value) (d : Array CaseD) (w : World) (hv : SliceC w v d) (hn : d.size ≤ 1048576) :
    Calls Tryd.prog 41 #[v] w fun x w' => ∃ g, x = .returned (.slice (some ⟨g, 0, none⟩) d.size d.size) ∧ FreshH w.heap.size d w w' g := by
  rcases hv with ⟨p, cap, rfl, rfl⟩ | ⟨b, off, cap, rfl, _, _, hR⟩
  · refine (toCaseS_nil p cap w).mono fun x w' ⟨h1, h2⟩ => ⟨w.heap.size, h1, Nat.le_refl _, ?_, ?_⟩
    · rw [h2]
      exact ⟨⟨by simp, fun j hj => absurd hj (Nat.not_lt_zero j), fun j hj => absurd hj (Nat.not_lt_zero j), fun j hj => absurd hj (Nat.not_lt_zero j), fun j hj => absurd hj (Nat.not_lt_zero j)⟩,
        ⟨by simp, fun t ht => absurd ht (by simp), fun t ht => absurd ht (by simp), fun t ht => absurd ht (Nat.not_lt_zero t)⟩⟩
    · rw [h2]
      exact (Below.refl _ _).alloc (Nat.le_refl _) _
  · exact (toCaseS_rowH b off cap d w hR hn).mono fun x w' ⟨g, h1, h2, h3, h4⟩ => ⟨g, h1, h2, h3, h4⟩

set_option maxHeartbeats 1000000 in
theorem toSwitch_hot (v : Value) (rest : Int) (d : Array CaseD) (w : World) (hv : SliceC w v d) (hn : d.size ≤ 1048576) :
    Calls Tryd.prog 15 #[.agg #[v, .int .i64 rest]] w fun x w' => ∃ g, x = .returned (.agg #[.slice (some ⟨g, 0, none⟩) d.size d.size, .int .i64 rest]) ∧ FreshH w.heap.size d w w' g := by
  have hcall := Lib.hid (fun W (hW : RowKit.Below w.heap.size w W) => toCaseS_hot v d W (hv.below hW) hn)
  clear hv hn
  go_enter Tryd.func15, Tryd.ntmps15
  go_wp2_with fail
  refine (hcall.out _ ((((Below.refl _ _).alloc (Nat.le_refl _) _).alloc (by simp) _).alloc (by simp; omega) _)).mono ?_
  rintro x w' ⟨g, rfl, hg, hR, hb⟩
  have hb0 := (((Below.refl w.heap.size w).alloc (Nat.le_refl _) (.cells #[v, .int .i64 rest] 24)).alloc (by simp) (.cells #[.slice none 0 0, .int .i64 0] 32)).alloc (by simp; omega) (.cells #[.slice none 0 0, .int .i64 0] 32) |>.trans (hb.mono (by simp; omega))
  have hsz := hb.size
  have HB0 := Lib.hid hb0
  have HRR := Lib.hid hR
  have HG := Lib.hid hg
  obtain ⟨hc, hf⟩ := bcell hb
  simp at hsz
  clear hb hb0 hR hg
  go_wp2
  have hg3 : w.heap.size + 1 + 1 + 1 ≤ g := by simpa using HG.out
  refine bodyPost_ret (v := .agg #[.slice (some ⟨g, 0, none⟩) d.size d.size, .int .i64 rest]) (by simp [results, Tryd.results15, go_sem, hc]) rfl ⟨g, rfl, by omega, ?_, ?_⟩
  · exact (((HRR.out.setCell (by show w.heap.size + 1 + 1 ≠ g; omega) _).setCell (by show w.heap.size + 1 + 1 ≠ g; omega) _).setCell (by show w.heap.size + 1 ≠ g; omega) _).setCell (by show w.heap.size + 1 ≠ g; omega) _
  · exact (((HB0.out.setCell (by show w.heap.size ≤ w.heap.size + 1 + 1; omega) _).setCell (by show w.heap.size ≤ w.heap.size + 1 + 1; omega) _).setCell (by show w.heap.size ≤ w.heap.size + 1; omega) _).setCell (by show w.heap.size ≤ w.heap.size + 1; omega) _

end Go.Proofs.YtjpcpiffffobcaaDoor
