/- ReachCosts of the program. -/
import Derived.Test.YthchhgjnelkmhaaDoorKsReachI
namespace Go.Proofs.YthchhgjnelkmhaaDoor
open Go.RowKit Go.Shelf Go.Lib Go.Sort

attribute [local go_sem] Oper.semAt_some

def applyR (n : Nat) (l : List (Int × Int)) : Array Int := l.foldl (fun A p => A.setIfInBounds p.1.toNat p.2) (Array.replicate n 0)
theorem applyR_snoc (n : Nat) (l : List (Int × Int)) (p : Int × Int) : applyR n (l ++ [p]) = (applyR n l).setIfInBounds p.1.toNat p.2 := by simp [applyR, List.foldl_append]
theorem applyR_size (n : Nat) (l : List (Int × Int)) : (applyR n l).size = n := by
  unfold applyR
  have : ∀ (l : List (Int × Int)) (A : Array Int), (l.foldl (fun A p => A.setIfInBounds p.1.toNat p.2) A).size = A.size := fun l => by
    induction l with
    | nil => intro A; rfl
    | cons p l ih => intro A; rw [List.foldl_cons, ih]; simp
  rw [this]
  simp
theorem applyR_reach (d : Array CaseD) (o : Array Int) : ∀ k, applyR o.size (reachL d o k) = reachTo d o k
  | 0 => rfl
  | k + 1 => by rw [reachL_succ, applyR_snoc, applyR_reach d o k]; rfl
theorem boxN_own (g : Nat) (f : List (Int × Int) → Array Int) {n : Nat} : Own (fun (pre : List (ReD n)) W => BoxN W g (f (valR pre))) := fun _ X Y row hs hg hrow =>
  hs.kept hg (fun e' => by obtain ⟨o, ho, hc⟩ := hrow g e'.symm; rw [show X.heap[g]? = _ from hs] at ho; cases ho; cases hc)

set_option maxRecDepth 100000 in
set_option maxHeartbeats 2000000 in
theorem implReach_any (b off cap : Nat) (d : Array CaseD) (rest : Int) (bo co : Nat) (o : Array Int) (w : World) (hR : RowC w b off d) (hE : ErrAt w) (hcap : d.size ≤ cap) (hmax : cap ≤ maxLen) (hO : RowN w bo 0 o) (ho : o.size ≤ 1048576) :
    Calls Tryd.prog 34 #[.agg #[.slice (some ⟨b, off, none⟩) d.size cap, .int .i64 rest], .slice (some ⟨bo, 0, none⟩) o.size co] w (Ints2 w.heap.size (reachN d rest o) (ordS d rest o) w) := by
  have hv := fun W (hW : RowKit.Below w.heap.size w W) => implOrder_any b off cap d rest bo co o W (hR.below hW) (hE.below hW) hcap hmax (hO.below hW) ho
  have HR := Lib.hid hR
  have HN := Lib.hid hO
  have ho' : (o.size : Int) ≤ 1048576 := by omega
  have hmk := run_makeInt o.size ho
  obtain ⟨wa, hwa⟩ : ∃ wa, wa = w.alloc (.cells #[.slice (some ⟨b, off, none⟩) d.size cap, .int .i64 rest] 30) := ⟨_, rfl⟩
  have c0 : wa.cell? ⟨w.heap.size, 0, none⟩ = some (.slice (some ⟨b, off, none⟩) d.size cap) := by rw [hwa]; simp
  have c1 : wa.cell? ⟨w.heap.size, 1, none⟩ = some (.int .i64 rest) := by rw [hwa]; simp
  have hz : wa.heap.size = w.heap.size + 1 := by rw [hwa]; simp
  have hba : RowKit.Below w.heap.size w wa := by rw [hwa]; exact (Below.refl _ _).alloc (Nat.le_refl _) _
  have HA := Lib.hid hba
  have C0 := Lib.hid c0
  have C1 := Lib.hid c1
  have HWA := Lib.hid hwa
  have HI2 := Lib.hid (show Ints2 w.heap.size (reachN d rest o) (ordS d rest o) w = fun x w' => ∃ v, x = .returned (.tuple #[v, .bool (ordS d rest o)]) ∧ OwnsN w.heap.size v (reachN d rest o) w' ∧ RowKit.Below w.heap.size w w' from rfl)
  clear hba c0 c1 hwa hR hO hE
  refine (callsIn_wide (n := 5)).1 ?_
  rw [HI2.out]
  cases hs : ordS d rest o
  all_goals
    simp only [hs] at hv
    have HV := Lib.hid hv
    have HS := Lib.hid hs
    clear hv hs
    refine callsIn_of_wp_marks Tryd.func34 rfl trivial ?_ rfl
    simp only [Tryd.ntmps34, List.size_toArray, List.length_cons, List.length_nil, Nat.reduceAdd, Nat.reduceSub, Array.replicate_succ, Array.replicate_zero, List.push_toArray, List.append_toArray, List.nil_append, List.cons_append]
    gi_wp2_with fail
    rw [← HWA.out]
    refine ⟨trivial, ?_⟩
    refine (callsIn_wide.2 (HV.out _ HA.out)).mono ?_
    rintro x w1 ⟨rfl, hb⟩
    have HB := Lib.hid hb
    have hz1 := hb.size
    have a0 := (hb.cell (p := ⟨w.heap.size, 0, none⟩) (by omega : w.heap.size < wa.heap.size)).trans C0.out
    have a1 := (hb.cell (p := ⟨w.heap.size, 1, none⟩) (by omega : w.heap.size < wa.heap.size)).trans C1.out
    have HWB := Lib.hid (HA.out.trans (HB.out.mono (by omega)))
    clear hb
    have hwz : w.heap.size < w1.heap.size := by omega
    gi_wp2_with fail
  · refine ⟨_, results_tmp2 rfl _ _ _, _, rfl, ?_, HWB.out⟩
    rw [reachN_off HS.out]
    exact World.ownsRow_nil _ _ _ _
  · refine ⟨trivial, ?_⟩
    refine (callsIn_wide.2 (reaches_any (some ⟨bo, 0, none⟩) o.size co (.slice (some ⟨b, off, none⟩) d.size cap) rest _)).mono ?_
    rintro x w2 ⟨rfl, rfl⟩
    gi_wp2_with fail
    obtain ⟨hok, hord⟩ := ordS_on HS.out
    have h8n : o.size ≤ 8 := by rw [hord.1]; exact hok.size
    have h8 : (o.size : Int) ≤ 8 := by omega
    have HSZ := Lib.hid hord.1
    have hgn := BoxN.made o.size w1 w1.heap.size rfl
    obtain ⟨w2, hw2⟩ : ∃ w2, w2 = w1.alloc (.cells (madeCells #[.int .i64 0] o.size) 3) := ⟨_, rfl⟩
    rw [← hw2] at hgn ⊢
    have hz2 : w2.heap.size = w1.heap.size + 1 := by rw [hw2]; simp
    have hb2 : RowKit.Below w1.heap.size w1 w2 := by rw [hw2]; exact (Below.refl _ _).alloc (Nat.le_refl _) _
    have bX := ((Boxed.new w2 25 (.slice (some ⟨w1.heap.size, 0, none⟩) o.size o.size)).alloc (.cells #[.slice (some ⟨bo, 0, none⟩) o.size co] 53)).alloc (.cells #[.slice (some ⟨b, off, none⟩) d.size cap, .int .i64 rest] 30)
    obtain ⟨W0, hW0⟩ : ∃ W0, W0 = ((w2.alloc (.cells #[.slice (some ⟨w1.heap.size, 0, none⟩) o.size o.size] 25)).alloc (.cells #[.slice (some ⟨bo, 0, none⟩) o.size co] 53)).alloc (.cells #[.slice (some ⟨b, off, none⟩) d.size cap, .int .i64 rest] 30) := ⟨_, rfl⟩
    have f0 : W0.cell? ⟨w2.heap.size + 1, 0, none⟩ = some (.slice (some ⟨bo, 0, none⟩) o.size co) := by rw [hW0]; simp [go_sem]
    have e0 : W0.cell? ⟨w2.heap.size + 2, 0, none⟩ = some (.slice (some ⟨b, off, none⟩) d.size cap) := by rw [hW0]; simp [go_sem]
    have e1 : W0.cell? ⟨w2.heap.size + 2, 1, none⟩ = some (.int .i64 rest) := by rw [hW0]; simp [go_sem]
    have hsz : W0.heap.size = w2.heap.size + 3 := by rw [hW0]; simp
    have hB20 : RowKit.Below w2.heap.size w2 W0 := by rw [hW0]; exact (((Below.refl _ _).alloc (Nat.le_refl _) _).alloc (by simp) _).alloc (by simp; omega) _
    rw [← hW0] at bX ⊢
    clear hW0 hw2
    have hB10 := hb2.trans (hB20.mono (by omega))
    have HB0 := Lib.hid (HWB.out.trans (hB10.mono (by omega)))
    have hI := (⟨e0, e1, by omega, HR.out.below HB0.out, HN.out.below HB0.out⟩ : ItR (w2.heap.size + 2) b off cap bo d rest o W0)
    have hbl : b < w.heap.size := HR.out.old
    have hbol : bo < w.heap.size := HN.out.old
    have hseq := reaches_stops 4 (w2.heap.size + 1) (w2.heap.size + 2) b off cap bo co d rest o W0 (by decide) hok hord f0 (by omega) hI
    have HSEQ := Lib.hid hseq
    have hgn0 : BoxN W0 w1.heap.size (applyR o.size (valR ([] : List (ReD d.size)))) := hgn.below hB20
    have HKR := Lib.hid hI.lt
    have HB10 := Lib.hid hB10
    obtain ⟨g, hg⟩ : ∃ g, g = w1.heap.size := ⟨_, rfl⟩
    rw [← hg] at bX hgn0 HB10 hz2 hwz hz1 ⊢
    have hlt0 : g + 3 < W0.heap.size := by omega
    rw [hz2] at bX HSEQ HKR hI
    have HBX := Lib.hid bX
    have hg1 : g ≤ w1.heap.size := by omega
    have hg2 : w1.heap.size ≤ g := by omega
    clear hseq hI f0 e0 e1 hB20 hb2 hgn hB10 HKR hsz hg hz2
    refine wpIn_rangeFunc_ownH rfl (by decide) (gf := 73) (lb := #[.pointer (some ⟨g + 1 + 1, 0, none⟩), .pointer (some ⟨g + 1 + 1 + 1, 0, none⟩)]) rfl trivial (enters_of Tryd.func73 (by kernel_rfl) rfl)
      HSEQ.out KpS.trans (kpS_b (by rintro i (rfl | rfl | rfl) <;> omega)) (Below.refl _ _) (fun _ => rfl)
      (fun pre W => (Boxed W (g + 1) 25 (.slice (some ⟨g, 0, none⟩) o.size o.size) ∧ BoxN W g (applyR o.size (valR pre))) ∧ RowKit.Below g w1 W)
      (fun _ _ _ => False)
      (OwnFrom.and (OwnFrom.and (Own.from (boxed_own _ _ _) _) (Own.from (boxN_own g (applyR o.size)) _)) (ownFrom_below (by omega) (by omega)))
      (fun _ _ _ _ _ hs _ _ => hs)
      ⟨⟨bX, hgn0⟩, HB10.out⟩
      (fun x a' _ => a' = { tmps := #[.agg #[.slice (some ⟨b, off, none⟩) d.size cap, .int .i64 rest], .slice (some ⟨bo, 0, none⟩) o.size co, .pointer (some ⟨w.heap.size, 0, none⟩), undef, .slice none 0 0, .bool false, .pointer (some ⟨g + 1, 0, none⟩), .int .i64 x.1.1, .int .i64 x.1.2, .agg #[.slice (some ⟨b, off, none⟩) d.size cap, .int .i64 rest], .slice (some ⟨bo, 0, none⟩) o.size co, .bool true, .bool false, .slice (some ⟨bo, 0, none⟩) o.size co, .int .i64 o.size, .slice (some ⟨g, 0, none⟩) o.size o.size, .slice (some ⟨bo, 0, none⟩) o.size co, .agg #[.slice (some ⟨b, off, none⟩) d.size cap, .int .i64 rest], .func (.func 73) #[] #[.pointer (some ⟨g + 1 + 1, 0, none⟩), .pointer (some ⟨g + 1 + 1 + 1, 0, none⟩)], .int .i64 x.1.1, .int .i64 x.1.2, undef, undef, undef, undef, undef], defers := [] })
      (fun x a' _ X Y row hs hg hr => hs)
      ?assign ?body ?done ?stop
    case assign =>
      rintro l pre x W K hI1 hK
      gi_wp2
      exact hK _ _ ((KeepsOthers.refl _).from _) (KpS.refl _ _) hI1 rfl
    case body =>
      rintro l pre x a' W hl ⟨r, hr⟩ ⟨⟨bX1, bN1⟩, hB1⟩ rfl hlt
      have hc := bX1.cell
      obtain ⟨⟨xi, xr⟩, ⟨hx0, hx1⟩, _, _⟩ := x
      simp only at hx0 hx1
      obtain ⟨t, rfl⟩ : ∃ t : Nat, xi = t := ⟨xi.toNat, by omega⟩
      have htA : t < (applyR o.size (valR pre)).size := by rw [applyR_size, HSZ.out]; omega
      have z0 := (bN1.holds t htA).1
      have z1 := (bN1.holds t htA).2
      simp only [Nat.zero_add] at z0 z1
      have hti : (t : Int) < (o.size : Int) := by rw [HSZ.out]; exact hx1
      have BX := Lib.hid bX1
      have BN := Lib.hid bN1
      have HB1 := Lib.hid hB1
      clear bX1 bN1 hB1 hr htA
      gi_wp2
      have hn := BN.out.set t xr
      refine ⟨(KeepsOthers.setCell _ _ _).from _, KpS.set _ _ (by rintro (h | h | h) <;> simp at h <;> omega), ⟨BX.out.kept (grown_setN (grown_reflN W (some g)) t (.int .i64 xr)) (by simp), ?_⟩, HB1.out.setCell (p := ⟨g, t, none⟩) (Nat.le_refl _) _⟩
      rw [valR_snoc, applyR_snoc, Int.toNat_natCast]
      exact hn
    case done =>
      rintro D ys W hD hvs ⟨⟨bX1, bN1⟩, hB1⟩ hK
      have hc := bX1.cell
      gi_wp2
      refine ⟨by simp, .inl ⟨_, _, rfl, run_takeDeferred hK, ?_⟩⟩
      refine ⟨_, results_tmp2 rfl _ _ _, _, rfl, ?_, HWB.out.trans ((hB1.trans (belowK_b (w := W0) (by omega) W D _ _ (by omega) hK rfl rfl)).mono (by omega))⟩
      rw [reachN_on HS.out]
      have hbn : BoxN (W.putObj D (.deferred none)) g (reachA d o) := by
        rw [hvs, applyR_reach] at bN1
        exact bN1.kept (grownBy_putObj' W D _) (by simp; omega)
      have := hbn.owns (base := w.heap.size) (by omega) (by rw [reachA_size]; omega)
      rw [reachA_size] at this
      exact this
    case stop =>
      rintro D c pre W _ _ h _
      exact h.elim
end Go.Proofs.YthchhgjnelkmhaaDoor
