
/- The laws' copy of an argument: toCase, toCaseS, toSwitch. -/
import Derived.Test.YtjpcpiffffobcaaGreatDoorKsSize
namespace Go.Proofs.YtjpcpiffffobcaaGreatDoor
open Go.RowKit Go.Shelf Go.Lib Go.Sort

set_option maxHeartbeats 400000 in
theorem toCase_any (c : CaseD) (w : World) : Calls Tryz.prog 71 #[aggC c] w fun x w' => x = .returned (aggC c) ∧ RowKit.Below w.heap.size w w' := by
  unfold aggC
  go_enter Tryz.func71, Tryz.ntmps71
  go_wp2
  refine bodyPost_ret (v := .agg #[.int .i64 c.low, .int .i64 c.high, .string c.target, .int .i64 c.weight]) (by simp [results, Tryz.results71, go_sem]) rfl ⟨rfl, ?_⟩
  exact (((Below.refl _ _).alloc (Nat.le_refl _) _).alloc (by simp) _).alloc (by simp; omega) _

def zeroCells : Array Value := #[.int .i64 0, .int .i64 0, .string ⟨#[]⟩, .int .i64 0]
theorem run_makeC (n : Nat) (hn : n ≤ 1048576) (W : World) :
    (Instr.makeSlice 30 (.int .i64 (n : Int)) (.int .i64 (n : Int))).run Tryz.prog W = .ok (.slice (some ⟨W.heap.size, 0, none⟩) n n) (W.alloc (.cells (madeCells zeroCells (n * 4)) 67)) := by
  obtain ⟨i0, hi, hz0, hz1, hz2⟩ := info_parts (show (Tryz.prog.info? 67).map (fun i => (i.zero, i.size, i.bytes)) = some (some (.agg #[.int .i64 0, .int .i64 0, .string ⟨#[]⟩, .int .i64 0]), 4, 40) by kernel_rfl)
  have h := run_make (P := Tryz.prog) W 30 67 i0 _ Tryz.underlying30 hi hz0 .i64 .i64 (n : Int) (n : Int) (by omega) (by omega) (by rw [hz2]; omega) (by omega)
  rw [hz1] at h
  simp only [Int.toNat_natCast] at h
  exact h

theorem made_holds (n : Nat) (W : World) (g : Nat) (hg : g = W.heap.size) : HoldsK encC 4 (W.alloc (.cells (madeCells zeroCells (n * 4)) 67)) g 0 (Array.replicate n ⟨0, 0, ⟨#[]⟩, 0⟩) := by
  subst hg
  intro t ht
  have ht' : t < n * 4 := by simpa using ht
  rw [get_flatK _ _ _ _ (by simpa using ht')]
  have hm : t % 4 < 4 := by omega
  have hq : t / 4 < n := by omega
  constructor
  · simp [madeCells, ht', hq, zeroCells, encC]
  · simp

theorem holdsK_below {w w' : World} {g off : Nat} {q : Array CaseD} (h : HoldsK encC 4 w g off q) (hg : g < w.heap.size) (hb : RowKit.Below w.heap.size w w') : HoldsK encC 4 w' g off q := fun t ht =>
  ⟨(hb.cell (p := ⟨g, off + t, none⟩) hg).trans (h t ht).1, (hb.frozen (p := ⟨g, off + t, none⟩) hg).trans (h t ht).2⟩
theorem below_setCells {B : Nat} {a : World} : ∀ (vs : List Value) (w' : World) (g o : Nat), RowKit.Below B a w' → B ≤ g → RowKit.Below B a (w'.setCells g o vs)
  | [], _, _, _, h, _ => h
  | v :: r, _, g, o, h, hg => below_setCells r _ g (o + 1) (h.setCell (p := ⟨g, o, none⟩) hg v) hg
theorem setMany_set (q : Array CaseD) (k : Nat) (x : CaseD) (hk : k < q.size) : setMany (flatK encC 4 q) (k * 4) (encC x) = flatK encC 4 (q.setIfInBounds k x) := by
  refine ext_get! (by simp) fun t ht => ?_
  have ht' : t < q.size * 4 := by simpa using ht
  rw [get_setMany _ _ _ t (by simpa using ht'), get_flatK _ _ _ t ht', get_flatK _ _ _ t (by simpa using ht')]
  by_cases h : t / 4 = k
  · rw [if_pos (by show k * 4 ≤ t ∧ t < k * 4 + 4; omega), h, getElem!_set_same _ _ _ hk]
    congr 1
    omega
  · rw [if_neg (by show ¬ (k * 4 ≤ t ∧ t < k * 4 + 4); omega), getElem!_set_other _ _ _ _ h]
theorem holds_store {w : World} {g : Nat} {q : Array CaseD} (h : HoldsK encC 4 w g 0 q) (k : Nat) (x : CaseD) (hk : k < q.size) :
    HoldsK encC 4 (w.setCells g (0 + k * 4) (encC x)) g 0 (q.setIfInBounds k x) ∧ Sem.run Tryz.prog (storeCells ⟨g, 0 + k * 4, none⟩ (encC x) 0) w = .ok () (w.setCells g (0 + k * 4) (encC x)) := by
  have hs : k * 4 + (encC x).length ≤ (flatK encC 4 q).size := by rw [size_flatK]; show k * 4 + 4 ≤ _; omega
  refine ⟨?_, stores_of_holds Tryz.prog h (k * 4) _ hs (encC_one x)⟩
  have := holds_setCells_c h (k * 4) (encC x) hs
  rw [setMany_set q k x hk] at this
  exact this

set_option maxRecDepth 100000 in
set_option maxHeartbeats 400000 in
theorem toCaseS_row (b off cap : Nat) (d : Array CaseD) (w : World) (hR : RowC w b off d) (hn : d.size ≤ 1048576) :
    Calls Tryz.prog 37 #[.slice (some ⟨b, off, none⟩) d.size cap] w fun x w' =>
      ∃ g, x = .returned (.slice (some ⟨g, 0, none⟩) d.size d.size) ∧ w.heap.size ≤ g ∧ RowC w' g 0 d ∧ RowKit.Below w.heap.size w w' := by
  have HR := Lib.hid hR
  clear hR
  have hn' : (d.size : Int) ≤ 1048576 := by omega
  have hmk := run_makeC d.size hn
  go_enter Tryz.func37, Tryz.ntmps37
  go_wp2
  have hH0 := made_holds d.size w w.heap.size rfl
  obtain ⟨wa, hwa⟩ : ∃ wa, wa = w.alloc (.cells (madeCells zeroCells (d.size * 4)) 67) := ⟨_, rfl⟩
  rw [← hwa] at hH0
  have hz : w.heap.size < wa.heap.size := by rw [hwa]; simp
  have hba : RowKit.Below w.heap.size w wa := by rw [hwa]; exact (Below.refl _ _).alloc (Nat.le_refl _) _
  rw [← hwa]
  have HH0 := Lib.hid hH0
  have HB := Lib.hid hba
  clear hwa hba hH0 hmk
  obtain ⟨g, hg⟩ : ∃ g, g = w.heap.size := ⟨_, rfl⟩
  rw [← hg] at HH0 hz ⊢
  have HG := Lib.hid hg
  clear hg
  go_loopw [4] (fun i wr => ∃ (k : Nat) (q : Array CaseD), i = .int .i64 k ∧ k ≤ d.size ∧ Hid (q.size = d.size) ∧ Hid (HoldsK encC 4 wr g 0 q) ∧ Hid (∀ j, j < k → q[j]! = d[j]!) ∧ Hid (RowKit.Below w.heap.size w wr) ∧ wa.heap.size ≤ wr.heap.size) (fun i _ => d.size - (intOf i).toNat)
  case atStart => exact ⟨0, _, rfl, Nat.zero_le _, by simp [Hid], HH0.out, fun j hj => absurd hj (Nat.not_lt_zero _), HB.out, Nat.le_refl _⟩
  case round =>
    obtain ⟨k, q, rfl, hk, HQ, HH, HE, HW, hw2⟩ := hrel
    by_cases hlt : k < d.size
    · have hx := HR.out.below HW.out
      have x0 := hx.low k hlt
      have x1 := hx.high k hlt
      have x2 := hx.target k hlt
      have x3 := hx.weight k hlt
      clear hx
      obtain ⟨x, hxe⟩ : ∃ x, x = d[k]! := ⟨_, rfl⟩
      rw [← hxe] at x0 x1 x2 x3
      have XE := Lib.hid hxe
      clear hxe
      have hcall := toCase_any x wr
      obtain ⟨cx, hcx⟩ : ∃ c, c = encC x := ⟨_, rfl⟩
      have hag : aggC x = .agg cx.toArray := by rw [hcx]; rfl
      have hcall2 : Calls Tryz.prog 71 #[aggC x] wr fun x w' => x = .returned (.agg cx.toArray) ∧ RowKit.Below wr.heap.size wr w' := by rw [← hag]; exact hcall
      have HCL := Lib.hid hcall2
      have CX := Lib.hid hcx
      clear hcall hcall2 hag hcx
      have hlen : cx.length = 4 := by rw [CX.out]; rfl
      have hgr : g < wr.heap.size := by omega
      have hqk : k < q.size := by rw [HQ.out]; exact hlt
      go_wp2_with (go_at_call 71; refine HCL.out.mono ?_; rintro y w' ⟨rfl, hb⟩; have hst := holds_store (holdsK_below HH.out hgr hb) k x hqk; rw [← CX.out, Nat.zero_add] at hst; have HST := Lib.hid hst.1; replace hst := hst.2)
      go_roundw
      case rel =>
        have hb2 := below_setCells cx w' g (k * 4) (HW.out.trans (hb.mono (Nat.le_trans (Nat.le_trans (Nat.le_of_lt_succ (by have := HG.out; omega)) (Nat.le_refl _)) (Nat.le_refl _)))) (Nat.le_of_eq HG.out.symm)
        refine ⟨k + 1, q.setIfInBounds k x, by go_num, by omega, (show _ = _ by simpa using HQ.out), HST.out, (show Hid _ from fun j hj => ?_), hb2, ?_⟩
        · by_cases e : j = k
          · subst e
            rw [getElem!_set_same _ _ _ hqk]
            exact XE.out
          · rw [getElem!_set_other _ _ _ _ e]
            exact HE.out j (by omega)
        · rw [size_setCells]
          exact Nat.le_trans hw2 hb.size
      case measure => simp [intOf]; omega
    · go_wp2
      go_ret
      refine ⟨g, rfl, Nat.le_of_eq HG.out.symm, ?_, HW.out⟩
      have e : q = d := Array.ext HQ.out fun j h1 h2 => by
        have := HE.out j (by omega)
        simpa [h1, h2] using this
      rw [← e]
      exact RowC.of_holds HH.out (by omega)

set_option maxHeartbeats 400000 in
theorem toCaseS_nil (p : Option Addr) (cap : Nat) (w : World) : Calls Tryz.prog 37 #[.slice p 0 cap] w fun x w' => x = .returned (.slice (some ⟨w.heap.size, 0, none⟩) 0 0) ∧ w' = w.alloc (.cells (madeCells zeroCells 0) 67) := by
  have hmk := fun W => run_makeC 0 (by omega) W
  simp only [Nat.zero_mul, Int.natCast_zero] at hmk
  go_enter Tryz.func37, Tryz.ntmps37
  go_wp2
  refine wp_loop_rounds 1 ?_
  rw [rounds_succ]
  go_wp2
  go_ret
  exact ⟨rfl, rfl⟩

/-- A fresh slice that holds the cases. -/
def Fresh (n : Nat) (d : Array CaseD) (w w' : World) (g : Nat) : Prop := n ≤ g ∧ RowC w' g 0 d ∧ RowKit.Below w.heap.size w w'

theorem toCaseS_any (v : Value) (d : Array CaseD) (w : World) (hv : SliceC w v d) (hn : d.size ≤ 1048576) :
    Calls Tryz.prog 37 #[v] w fun x w' => ∃ g, x = .returned (.slice (some ⟨g, 0, none⟩) d.size d.size) ∧ Fresh w.heap.size d w w' g := by
  rcases hv with ⟨p, cap, rfl, rfl⟩ | ⟨b, off, cap, rfl, _, _, hR⟩
  · refine (toCaseS_nil p cap w).mono fun x w' ⟨h1, h2⟩ => ⟨w.heap.size, h1, Nat.le_refl _, ?_, ?_⟩
    · rw [h2]
      exact ⟨by simp, fun j hj => absurd hj (Nat.not_lt_zero j), fun j hj => absurd hj (Nat.not_lt_zero j), fun j hj => absurd hj (Nat.not_lt_zero j), fun j hj => absurd hj (Nat.not_lt_zero j)⟩
    · rw [h2]
      exact (Below.refl _ _).alloc (Nat.le_refl _) _
  · exact (toCaseS_row b off cap d w hR hn).mono fun x w' ⟨g, h1, h2, h3, h4⟩ => ⟨g, h1, h2, h3, h4⟩

theorem RowC.setCell {w : World} {b off : Nat} {d : Array CaseD} (h : RowC w b off d) {a : Addr} (ha : a.block ≠ b) (u : Value) : RowC (w.setCell a u) b off d := by
  have e : ∀ o, (w.setCell a u).cell? ⟨b, o, none⟩ = w.cell? ⟨b, o, none⟩ := fun o => World.cell?_of_block (Below.heap_setCell w a u b (fun h => ha h.symm))
  exact ⟨by simpa [World.setCell] using h.old, fun j hj => (e _).trans (h.low j hj), fun j hj => (e _).trans (h.high j hj), fun j hj => (e _).trans (h.target j hj), fun j hj => (e _).trans (h.weight j hj)⟩
theorem bcell {W w1 : World} (hb : RowKit.Below W.heap.size W w1) : (∀ b o, b < W.heap.size → w1.cell? ⟨b, o, none⟩ = W.cell? ⟨b, o, none⟩) ∧ (∀ b o, b < W.heap.size → w1.frozen? ⟨b, o, none⟩ = W.frozen? ⟨b, o, none⟩) :=
  ⟨fun b o h => hb.cell (p := ⟨b, o, none⟩) h, fun b o h => hb.frozen (p := ⟨b, o, none⟩) h⟩

set_option maxHeartbeats 1000000 in
theorem toSwitch_any (v : Value) (rest : Int) (d : Array CaseD) (w : World) (hv : SliceC w v d) (hn : d.size ≤ 1048576) :
    Calls Tryz.prog 9 #[.agg #[v, .int .i64 rest]] w fun x w' => ∃ g, x = .returned (.agg #[.slice (some ⟨g, 0, none⟩) d.size d.size, .int .i64 rest]) ∧ Fresh w.heap.size d w w' g := by
  have hcall := Lib.hid (fun W (hW : RowKit.Below w.heap.size w W) => toCaseS_any v d W (hv.below hW) hn)
  clear hv hn
  go_enter Tryz.func9, Tryz.ntmps9
  go_wp2_with fail
  refine (hcall.out _ ((((Below.refl _ _).alloc (Nat.le_refl _) _).alloc (by simp) _).alloc (by simp; omega) _)).mono ?_
  rintro x w' ⟨g, rfl, hg, hR, hb⟩
  have hb0 := (((Below.refl w.heap.size w).alloc (Nat.le_refl _) (.cells #[v, .int .i64 rest] 24)).alloc (by simp) (.cells #[.slice none 0 0, .int .i64 0] 32)).alloc (by simp; omega) (.cells #[.slice none 0 0, .int .i64 0] 32) |>.trans (hb.mono (by simp; omega))
  have hsz := hb.size
  have HB0 := Lib.hid hb0
  have HRR := Lib.hid hR
  have HG := Lib.hid hg
  obtain ⟨hc, hf⟩ := bcell hb
  simp at hsz
  clear hb hb0 hR hg
  go_wp2
  have hg3 : w.heap.size + 1 + 1 + 1 ≤ g := by simpa using HG.out
  refine bodyPost_ret (v := .agg #[.slice (some ⟨g, 0, none⟩) d.size d.size, .int .i64 rest]) (by simp [results, Tryz.results9, go_sem, hc]) rfl ⟨g, rfl, by omega, ?_, ?_⟩
  · exact (((HRR.out.setCell (by show w.heap.size + 1 + 1 ≠ g; omega) _).setCell (by show w.heap.size + 1 + 1 ≠ g; omega) _).setCell (by show w.heap.size + 1 ≠ g; omega) _).setCell (by show w.heap.size + 1 ≠ g; omega) _
  · exact (((HB0.out.setCell (by show w.heap.size ≤ w.heap.size + 1 + 1; omega) _).setCell (by show w.heap.size ≤ w.heap.size + 1 + 1; omega) _).setCell (by show w.heap.size ≤ w.heap.size + 1; omega) _).setCell (by show w.heap.size ≤ w.heap.size + 1; omega) _

/-! eqCase, eqCaseS, eqSwitch: of equal ones -/
set_option maxHeartbeats 400000 in
theorem eqCase_same (c : CaseD) (w : World) : Calls Tryz.prog 72 #[aggC c, aggC c] w fun x w' => x = .returned (.bool true) ∧ RowKit.Below w.heap.size w w' := by
  unfold aggC
  go_enter Tryz.func72, Tryz.ntmps72
  go_wp2
  go_ret
  exact ⟨rfl, ((Below.refl _ _).alloc (Nat.le_refl _) _).alloc (by simp) _⟩

set_option maxRecDepth 100000 in
set_option maxHeartbeats 400000 in
theorem eqCaseS_same (b1 o1 c1 b2 o2 c2 : Nat) (d : Array CaseD) (w : World) (h1 : RowC w b1 o1 d) (h2 : RowC w b2 o2 d) (hn : d.size ≤ 1048576) :
    Calls Tryz.prog 45 #[.slice (some ⟨b1, o1, none⟩) d.size c1, .slice (some ⟨b2, o2, none⟩) d.size c2] w fun x w' => x = .returned (.bool true) ∧ RowKit.Below w.heap.size w w' := by
  have H1 := Lib.hid h1
  have H2 := Lib.hid h2
  have hn' : (d.size : Int) ≤ 1048576 := by omega
  clear h1 h2
  go_enter Tryz.func45, Tryz.ntmps45
  go_wp2
  go_loopw [5] (fun i wr => ∃ k : Nat, i = .int .i64 k ∧ k ≤ d.size ∧ Hid (RowKit.Below w.heap.size w wr) ∧ w.heap.size ≤ wr.heap.size) (fun i _ => d.size - (intOf i).toNat)
  case atStart => exact ⟨0, rfl, Nat.zero_le _, Below.refl _ _, Nat.le_refl _⟩
  case round =>
    obtain ⟨k, rfl, hk, HW, hw2⟩ := hrel
    by_cases hlt : k < d.size
    · have hx := H1.out.below HW.out
      have hy := H2.out.below HW.out
      have x0 := hx.low k hlt
      have x1 := hx.high k hlt
      have x2 := hx.target k hlt
      have x3 := hx.weight k hlt
      have y0 := hy.low k hlt
      have y1 := hy.high k hlt
      have y2 := hy.target k hlt
      have y3 := hy.weight k hlt
      obtain ⟨x, hxe⟩ : ∃ x, x = d[k]! := ⟨_, rfl⟩
      rw [← hxe] at x0 x1 x2 x3 y0 y1 y2 y3
      clear hxe
      have ob1 := hx.old
      have ob2 := hy.old
      clear hx hy
      have f0 := fun p : BW wr => p.cell ob1 x0
      have f1 := fun p : BW wr => p.cell ob1 x1
      have f2 := fun p : BW wr => p.cell ob1 x2
      have f3 := fun p : BW wr => p.cell ob1 x3
      have g0 := fun p : BW wr => p.cell ob2 y0
      have g1 := fun p : BW wr => p.cell ob2 y1
      have g2 := fun p : BW wr => p.cell ob2 y2
      have g3 := fun p : BW wr => p.cell ob2 y3
      clear x0 x1 x2 x3 y0 y1 y2 y3
      have hs1 : (0 : Int) ≤ (k : Int) := by omega
      have hs5 : (k : Int) < (d.size : Int) := by omega
      go_wp2
      refine wp_region_bw (by kernel_rfl) (by kernel_rfl) ?_
      repeat (go_big_quiet_step ((go_at_call 72; refine bw_of (eqCase_same x _))))
      refine wpQuiet_nil ?_
      rintro _ ⟨p, rfl⟩
      go_wp2
      go_roundw
      case rel => exact ⟨k + 1, by go_num, by omega, HW.out.trans (p.h.mono hw2), Nat.le_trans hw2 p.h.size⟩
      case measure => simp [intOf]; omega
    · go_wp2
      go_ret
      exact ⟨rfl, HW.out⟩

set_option maxHeartbeats 400000 in
theorem eqSwitch_same (b1 o1 c1 b2 o2 c2 : Nat) (rest : Int) (d : Array CaseD) (w : World) (h1 : RowC w b1 o1 d) (h2 : RowC w b2 o2 d) (hn : d.size ≤ 1048576) :
    Calls Tryz.prog 12 #[.agg #[.slice (some ⟨b1, o1, none⟩) d.size c1, .int .i64 rest], .agg #[.slice (some ⟨b2, o2, none⟩) d.size c2, .int .i64 rest]] w fun x w' => x = .returned (.bool true) ∧ RowKit.Below w.heap.size w w' := by
  have hcall := Lib.hid (fun W (hW : RowKit.Below w.heap.size w W) => eqCaseS_same b1 o1 c1 b2 o2 c2 d W (h1.below hW) (h2.below hW) hn)
  clear h1 h2 hn
  go_enter Tryz.func12, Tryz.ntmps12
  go_wp2_with fail
  refine (hcall.out _ (((Below.refl _ _).alloc (Nat.le_refl _) _).alloc (by simp) _)).mono ?_
  rintro x w' ⟨rfl, hb⟩
  have HB := Lib.hid ((((Below.refl w.heap.size w).alloc (Nat.le_refl _) (.cells #[.slice (some ⟨b1, o1, none⟩) d.size c1, .int .i64 rest] 32)).alloc (by simp) (.cells #[.slice (some ⟨b2, o2, none⟩) d.size c2, .int .i64 rest] 32)).trans (hb.mono (by simp; omega)))
  obtain ⟨hc, hf⟩ := bcell hb
  clear hb hf
  go_wp2
  go_ret
  exact ⟨rfl, HB.out⟩
end Go.Proofs.YtjpcpiffffobcaaGreatDoor
