
/- Clusters that come in: their measure, their copy, their equality with themselves. -/
import Derived.Test.YtjpcpiffffobcaaGreatDoorKsCopy
import Derived.Test.YtjpcpiffffobcaaGreatDoorKsSize
namespace Go.Proofs.YtjpcpiffffobcaaGreatDoor
open Go.RowKit Go.Shelf Go.Lib Go.Sort

structure CluD where
  first : Int
  last : Int
  kind : ByteArray
deriving Inhabited
def encQ (c : CluD) : List Value := [.int .i64 c.first, .int .i64 c.last, .string c.kind]
def aggQ (c : CluD) : Value := .agg #[.int .i64 c.first, .int .i64 c.last, .string c.kind]
theorem encQ_one (x : CluD) : ∀ v ∈ encQ x, v.oneCell' = true := fun v hv => by
  simp [encQ] at hv
  rcases hv with rfl | rfl | rfl <;> rfl
/-- The clusters of an array lie one behind the other from a place on. -/
structure RowQ (w : World) (b off : Nat) (d : Array CluD) : Prop where
  old : b < w.heap.size
  first : ∀ j, j < d.size → w.cell? ⟨b, off + j * 3, none⟩ = some (.int .i64 d[j]!.first)
  last : ∀ j, j < d.size → w.cell? ⟨b, off + j * 3 + 1, none⟩ = some (.int .i64 d[j]!.last)
  kind : ∀ j, j < d.size → w.cell? ⟨b, off + j * 3 + 2, none⟩ = some (.string d[j]!.kind)
theorem RowQ.below {w w' : World} {b off : Nat} {d : Array CluD} (h : RowQ w b off d) (hb : Below w.heap.size w w') : RowQ w' b off d :=
  ⟨Nat.lt_of_lt_of_le h.old hb.size, fun j hj => (hb.cell (p := ⟨b, _, none⟩) h.old).trans (h.first j hj), fun j hj => (hb.cell (p := ⟨b, _, none⟩) h.old).trans (h.last j hj),
    fun j hj => (hb.cell (p := ⟨b, _, none⟩) h.old).trans (h.kind j hj)⟩
theorem RowQ.of_holds {w : World} {b off : Nat} {d : Array CluD} (h : HoldsK encQ 3 w b off d) (hb : b < w.heap.size) : RowQ w b off d :=
  ⟨hb, fun j hj => (h.cell (c := 0) hj (by decide)).1, fun j hj => (h.cell (c := 1) hj (by decide)).1, fun j hj => (h.cell (c := 2) hj (by decide)).1⟩
/-- A slice of clusters that came in: nil, or a row. -/
def SliceQ (w : World) (v : Value) (d : Array CluD) : Prop :=
  (∃ p cap, v = .slice p 0 cap ∧ d = #[]) ∨ ∃ b off cap, v = .slice (some ⟨b, off, none⟩) d.size cap ∧ d.size ≤ cap ∧ cap ≤ maxLen ∧ RowQ w b off d
theorem SliceQ.below {w w' : World} {v : Value} {d : Array CluD} (h : SliceQ w v d) (hb : RowKit.Below w.heap.size w w') : SliceQ w' v d := by
  rcases h with h | ⟨b, off, cap, h1, h2, h3, h4⟩
  · exact .inl h
  · exact .inr ⟨b, off, cap, h1, h2, h3, h4.below hb⟩
theorem SliceQ.form {w : World} {v : Value} {d : Array CluD} (h : SliceQ w v d) : ∃ p n cap, v = .slice p n cap := by
  rcases h with ⟨p, cap, rfl, _⟩ | ⟨b, off, cap, rfl, _⟩
  · exact ⟨_, _, _, rfl⟩
  · exact ⟨_, _, _, rfl⟩

/-! the measure -/
def SzPostQ (d : Array CluD) (w : World) (x : Ending) (w' : World) : Prop :=
  ∃ r : Int, x = .returned (.int .i64 r) ∧ r ≤ 1048576 ∧ (0 ≤ r → d.size ≤ 1048576 ∧ ∀ j, j < d.size → d[j]!.kind.size ≤ 1048576) ∧ RowKit.Below w.heap.size w w'
set_option maxHeartbeats 400000 in
theorem szCluster_any (c : CluD) (l : Int) (w : World) (h0 : 0 ≤ l) (h1 : l ≤ 1048576) (hs : c.kind.size ≤ maxLen) :
    Calls Tryz.prog 33 #[aggQ c, .int .i64 l] w fun x w' => ∃ r : Int, x = .returned (.int .i64 r) ∧ r ≤ 1048576 ∧ (0 ≤ r → c.kind.size ≤ 1048576) ∧ RowKit.Below w.heap.size w w' := by
  unfold maxLen at hs
  unfold aggQ
  by_cases hn : l - c.kind.size < 0
  · go_enter Tryz.func33, Tryz.ntmps33
    go_wp2
    go_ret
    exact ⟨-1, rfl, by omega, fun h => by omega, (Below.refl _ _).alloc (Nat.le_refl _) _⟩
  · go_enter Tryz.func33, Tryz.ntmps33
    go_wp2
    go_ret
    exact ⟨l - c.kind.size, rfl, by omega, fun h => by omega, (Below.refl _ _).alloc (Nat.le_refl _) _⟩
set_option maxHeartbeats 400000 in
theorem szClusterS_long (v : Value) (n cap : Nat) (l : Int) (w : World) (h0 : 0 ≤ l) (h1 : l ≤ 1048576) (hn : l < n) (hmax : n ≤ maxLen) (a : Option Addr) (hv : v = .slice a n cap) :
    Calls Tryz.prog 7 #[v, .int .i64 l] w fun x w' => x = .returned (.int .i64 (-1)) ∧ w = w' := by
  unfold maxLen at hmax
  subst hv
  go_enter Tryz.func7, Tryz.ntmps7
  go_wp2
  go_ret
  exact ⟨rfl, rfl⟩
set_option maxRecDepth 100000 in
set_option maxHeartbeats 400000 in
theorem szClusterS_row (b off cap : Nat) (d : Array CluD) (l : Int) (w : World) (h0 : 0 ≤ l) (h1 : l ≤ 1048576) (hR : RowQ w b off d) (hs : ∀ j, j < d.size → d[j]!.kind.size ≤ maxLen) (hn : (d.size : Int) ≤ l) :
    Calls Tryz.prog 7 #[.slice (some ⟨b, off, none⟩) d.size cap, .int .i64 l] w (SzPostQ d w) := by
  have HR := Lib.hid hR
  have HS := Lib.hid hs
  clear hR hs
  have hn' : (d.size : Int) ≤ 1048576 := by omega
  go_enter Tryz.func7, Tryz.ntmps7
  go_wp2
  go_loopw [1, 5] (fun l i wr => ∃ (k : Nat) (r : Int), i = .int .i64 k ∧ l = .int .i64 r ∧ 0 ≤ r ∧ r ≤ 1048576 ∧ k ≤ d.size ∧ Hid (∀ j, j < k → d[j]!.kind.size ≤ 1048576) ∧ Hid (RowKit.Below w.heap.size w wr) ∧ w.heap.size ≤ wr.heap.size) (fun _ i _ => d.size - (intOf i).toNat)
  case atStart => exact ⟨0, _, rfl, rfl, by omega, by omega, Nat.zero_le _, Lib.hid (fun j hj => absurd hj (Nat.not_lt_zero j)), Below.refl _ _, Nat.le_refl _⟩
  case round =>
    obtain ⟨k, r, rfl, rfl, hr0, hr1, hk, HJ, HW, hw2⟩ := hrel
    by_cases hlt : k < d.size
    · have hx := HR.out.below HW.out
      have x0 := hx.first k hlt
      have x1 := hx.last k hlt
      have x2 := hx.kind k hlt
      clear hx
      obtain ⟨x, hxe⟩ : ∃ x, x = d[k]! := ⟨_, rfl⟩
      have hsx := HS.out k hlt
      rw [← hxe] at x0 x1 x2 hsx
      have HXE := Lib.hid hxe
      clear hxe
      have hcall := Lib.hid (szCluster_any x r wr hr0 hr1 hsx)
      go_wp2_with (go_at_call 33; refine hcall.out.mono ?_; rintro x' w' ⟨q, rfl, hq, ht, hb⟩; have HTQ := Lib.hid ht; clear ht)
      · go_ret
        exact ⟨-1, rfl, by omega, fun h => by omega, HW.out.trans (hb.mono hw2)⟩
      · have hq0 : 0 ≤ q := by assumption
        go_roundw
        case rel =>
          refine ⟨k + 1, q, by go_num, rfl, hq0, hq, by omega, Lib.hid (fun j hj => ?_), HW.out.trans (hb.mono hw2), Nat.le_trans hw2 hb.size⟩
          by_cases e : j = k
          · subst e
            rw [← HXE.out]
            exact HTQ.out hq0
          · exact HJ.out j (by omega)
        case measure => simp [intOf]; omega
    · have hke : k = d.size := by omega
      have HJ2 := Lib.hid (show ∀ j, j < d.size → d[j]!.kind.size ≤ 1048576 from hke ▸ HJ.out)
      clear hke
      go_wp2
      go_ret
      exact ⟨r, rfl, hr1, fun _ => ⟨by omega, HJ2.out⟩, HW.out⟩
set_option maxHeartbeats 400000 in
theorem szClusterS_nil (p : Option Addr) (cap : Nat) (l : Int) (w : World) (h0 : 0 ≤ l) (h1 : l ≤ 1048576) : Calls Tryz.prog 7 #[.slice p 0 cap, .int .i64 l] w (SzPostQ #[] w) := by
  go_enter Tryz.func7, Tryz.ntmps7
  go_wp2
  refine wp_loop_rounds 1 ?_
  rw [rounds_succ]
  go_wp2
  go_ret
  exact ⟨l, rfl, h1, fun _ => ⟨by simp, fun j hj => absurd hj (Nat.not_lt_zero j)⟩, Below.refl _ _⟩
theorem szClusterS_any (v : Value) (d : Array CluD) (l : Int) (w : World) (h0 : 0 ≤ l) (h1 : l ≤ 1048576) (hv : SliceQ w v d) (hs : ∀ j, j < d.size → d[j]!.kind.size ≤ maxLen) :
    Calls Tryz.prog 7 #[v, .int .i64 l] w (SzPostQ d w) := by
  rcases hv with ⟨p, cap, rfl, rfl⟩ | ⟨b, off, cap, rfl, g1, g2, hR⟩
  · exact szClusterS_nil p cap l w h0 h1
  · by_cases hn : (d.size : Int) ≤ l
    · exact szClusterS_row b off cap d l w h0 h1 hR hs hn
    · exact (szClusterS_long _ d.size cap l w h0 h1 (by omega) (by omega) _ rfl).mono fun _ _ ⟨he, hw⟩ => ⟨-1, he, by omega, fun h => by omega, hw ▸ Below.refl _ _⟩

/-! the copy -/
set_option maxHeartbeats 400000 in
theorem toCluster_any (c : CluD) (w : World) : Calls Tryz.prog 38 #[aggQ c] w fun x w' => x = .returned (aggQ c) ∧ RowKit.Below w.heap.size w w' := by
  unfold aggQ
  go_enter Tryz.func38, Tryz.ntmps38
  go_wp2
  refine bodyPost_ret (v := .agg #[.int .i64 c.first, .int .i64 c.last, .string c.kind]) (by simp [results, Tryz.results38, go_sem]) rfl ⟨rfl, ?_⟩
  exact (((Below.refl _ _).alloc (Nat.le_refl _) _).alloc (by simp) _).alloc (by simp; omega) _

def zeroCellsQ : Array Value := #[.int .i64 0, .int .i64 0, .string ⟨#[]⟩]
theorem run_makeQ (n : Nat) (hn : n ≤ 1048576) (W : World) :
    (Instr.makeSlice 34 (.int .i64 (n : Int)) (.int .i64 (n : Int))).run Tryz.prog W = .ok (.slice (some ⟨W.heap.size, 0, none⟩) n n) (W.alloc (.cells (madeCells zeroCellsQ (n * 3)) 45)) := by
  obtain ⟨i0, hi, hz0, hz1, hz2⟩ := info_parts (show (Tryz.prog.info? 45).map (fun i => (i.zero, i.size, i.bytes)) = some (some (.agg #[.int .i64 0, .int .i64 0, .string ⟨#[]⟩]), 3, 32) by kernel_rfl)
  have h := run_make (P := Tryz.prog) W 34 45 i0 _ Tryz.underlying34 hi hz0 .i64 .i64 (n : Int) (n : Int) (by omega) (by omega) (by rw [hz2]; omega) (by omega)
  rw [hz1] at h
  simp only [Int.toNat_natCast] at h
  exact h
theorem made_holdsQ (n : Nat) (W : World) (g : Nat) (hg : g = W.heap.size) : HoldsK encQ 3 (W.alloc (.cells (madeCells zeroCellsQ (n * 3)) 45)) g 0 (Array.replicate n ⟨0, 0, ⟨#[]⟩⟩) := by
  subst hg
  intro t ht
  have ht' : t < n * 3 := by simpa using ht
  rw [get_flatK _ _ _ _ (by simpa using ht')]
  have hm : t % 3 < 3 := by omega
  have hq : t / 3 < n := by omega
  constructor
  · simp [madeCells, ht', hq, zeroCellsQ, encQ]
  · simp
theorem holdsQ_below {w w' : World} {g off : Nat} {q : Array CluD} (h : HoldsK encQ 3 w g off q) (hg : g < w.heap.size) (hb : RowKit.Below w.heap.size w w') : HoldsK encQ 3 w' g off q := fun t ht =>
  ⟨(hb.cell (p := ⟨g, off + t, none⟩) hg).trans (h t ht).1, (hb.frozen (p := ⟨g, off + t, none⟩) hg).trans (h t ht).2⟩
theorem setMany_setQ (q : Array CluD) (k : Nat) (x : CluD) (hk : k < q.size) : setMany (flatK encQ 3 q) (k * 3) (encQ x) = flatK encQ 3 (q.setIfInBounds k x) := by
  refine ext_get! (by simp) fun t ht => ?_
  have ht' : t < q.size * 3 := by simpa using ht
  rw [get_setMany _ _ _ t (by simpa using ht'), get_flatK _ _ _ t ht', get_flatK _ _ _ t (by simpa using ht')]
  by_cases h : t / 3 = k
  · rw [if_pos (by show k * 3 ≤ t ∧ t < k * 3 + 3; omega), h, getElem!_set_same _ _ _ hk]
    congr 1
    omega
  · rw [if_neg (by show ¬ (k * 3 ≤ t ∧ t < k * 3 + 3); omega), getElem!_set_other _ _ _ _ h]
theorem holds_storeQ {w : World} {g : Nat} {q : Array CluD} (h : HoldsK encQ 3 w g 0 q) (k : Nat) (x : CluD) (hk : k < q.size) :
    HoldsK encQ 3 (w.setCells g (0 + k * 3) (encQ x)) g 0 (q.setIfInBounds k x) ∧ Sem.run Tryz.prog (storeCells ⟨g, 0 + k * 3, none⟩ (encQ x) 0) w = .ok () (w.setCells g (0 + k * 3) (encQ x)) := by
  have hs : k * 3 + (encQ x).length ≤ (flatK encQ 3 q).size := by rw [size_flatK]; show k * 3 + 3 ≤ _; omega
  refine ⟨?_, stores_of_holds Tryz.prog h (k * 3) _ hs (encQ_one x)⟩
  have := holds_setCells_c h (k * 3) (encQ x) hs
  rw [setMany_setQ q k x hk] at this
  exact this
set_option maxRecDepth 100000 in
set_option maxHeartbeats 400000 in
theorem toClusterS_row (b off cap : Nat) (d : Array CluD) (w : World) (hR : RowQ w b off d) (hn : d.size ≤ 1048576) :
    Calls Tryz.prog 10 #[.slice (some ⟨b, off, none⟩) d.size cap] w fun x w' =>
      ∃ g, x = .returned (.slice (some ⟨g, 0, none⟩) d.size d.size) ∧ w.heap.size ≤ g ∧ RowQ w' g 0 d ∧ RowKit.Below w.heap.size w w' := by
  have HR := Lib.hid hR
  clear hR
  have hn' : (d.size : Int) ≤ 1048576 := by omega
  have hmk := run_makeQ d.size hn
  go_enter Tryz.func10, Tryz.ntmps10
  go_wp2
  have hH0 := made_holdsQ d.size w w.heap.size rfl
  obtain ⟨wa, hwa⟩ : ∃ wa, wa = w.alloc (.cells (madeCells zeroCellsQ (d.size * 3)) 45) := ⟨_, rfl⟩
  rw [← hwa] at hH0
  have hz : w.heap.size < wa.heap.size := by rw [hwa]; simp
  have hba : RowKit.Below w.heap.size w wa := by rw [hwa]; exact (Below.refl _ _).alloc (Nat.le_refl _) _
  rw [← hwa]
  have HH0 := Lib.hid hH0
  have HB := Lib.hid hba
  clear hwa hba hH0 hmk
  obtain ⟨g, hg⟩ : ∃ g, g = w.heap.size := ⟨_, rfl⟩
  rw [← hg] at HH0 hz ⊢
  have HG := Lib.hid hg
  clear hg
  go_loopw [4] (fun i wr => ∃ (k : Nat) (q : Array CluD), i = .int .i64 k ∧ k ≤ d.size ∧ Hid (q.size = d.size) ∧ Hid (HoldsK encQ 3 wr g 0 q) ∧ Hid (∀ j, j < k → q[j]! = d[j]!) ∧ Hid (RowKit.Below w.heap.size w wr) ∧ wa.heap.size ≤ wr.heap.size) (fun i _ => d.size - (intOf i).toNat)
  case atStart => exact ⟨0, _, rfl, Nat.zero_le _, by simp [Hid], HH0.out, fun j hj => absurd hj (Nat.not_lt_zero _), HB.out, Nat.le_refl _⟩
  case round =>
    obtain ⟨k, q, rfl, hk, HQ, HH, HE, HW, hw2⟩ := hrel
    by_cases hlt : k < d.size
    · have hx := HR.out.below HW.out
      have x0 := hx.first k hlt
      have x1 := hx.last k hlt
      have x2 := hx.kind k hlt
      clear hx
      obtain ⟨x, hxe⟩ : ∃ x, x = d[k]! := ⟨_, rfl⟩
      rw [← hxe] at x0 x1 x2
      have XE := Lib.hid hxe
      clear hxe
      have hcall := toCluster_any x wr
      obtain ⟨cx, hcx⟩ : ∃ c, c = encQ x := ⟨_, rfl⟩
      have hag : aggQ x = .agg cx.toArray := by rw [hcx]; rfl
      have hcall2 : Calls Tryz.prog 38 #[aggQ x] wr fun x w' => x = .returned (.agg cx.toArray) ∧ RowKit.Below wr.heap.size wr w' := by rw [← hag]; exact hcall
      have HCL := Lib.hid hcall2
      have CX := Lib.hid hcx
      clear hcall hcall2 hag hcx
      have hlen : cx.length = 3 := by rw [CX.out]; rfl
      have hgr : g < wr.heap.size := by omega
      have hqk : k < q.size := by rw [HQ.out]; exact hlt
      go_wp2_with (go_at_call 38; refine HCL.out.mono ?_; rintro y w' ⟨rfl, hb⟩; have hst := holds_storeQ (holdsQ_below HH.out hgr hb) k x hqk; rw [← CX.out, Nat.zero_add] at hst; have HST := Lib.hid hst.1; replace hst := hst.2)
      go_roundw
      case rel =>
        have hb2 := below_setCells cx w' g (k * 3) (HW.out.trans (hb.mono (Nat.le_trans (Nat.le_trans (Nat.le_of_lt_succ (by have := HG.out; omega)) (Nat.le_refl _)) (Nat.le_refl _)))) (Nat.le_of_eq HG.out.symm)
        refine ⟨k + 1, q.setIfInBounds k x, by go_num, by omega, (show _ = _ by simpa using HQ.out), HST.out, (show Hid _ from fun j hj => ?_), hb2, ?_⟩
        · by_cases e : j = k
          · subst e
            rw [getElem!_set_same _ _ _ hqk]
            exact XE.out
          · rw [getElem!_set_other _ _ _ _ e]
            exact HE.out j (by omega)
        · rw [size_setCells]
          exact Nat.le_trans hw2 hb.size
      case measure => simp [intOf]; omega
    · go_wp2
      go_ret
      refine ⟨g, rfl, Nat.le_of_eq HG.out.symm, ?_, HW.out⟩
      have e : q = d := Array.ext HQ.out fun j h1 h2 => by
        have := HE.out j (by omega)
        simpa [h1, h2] using this
      rw [← e]
      exact RowQ.of_holds HH.out (by omega)
set_option maxHeartbeats 400000 in
theorem toClusterS_nil (p : Option Addr) (cap : Nat) (w : World) : Calls Tryz.prog 10 #[.slice p 0 cap] w fun x w' => x = .returned (.slice (some ⟨w.heap.size, 0, none⟩) 0 0) ∧ w' = w.alloc (.cells (madeCells zeroCellsQ 0) 45) := by
  have hmk := fun W => run_makeQ 0 (by omega) W
  simp only [Nat.zero_mul, Int.natCast_zero] at hmk
  go_enter Tryz.func10, Tryz.ntmps10
  go_wp2
  refine wp_loop_rounds 1 ?_
  rw [rounds_succ]
  go_wp2
  go_ret
  exact ⟨rfl, rfl⟩
/-- A fresh slice that holds the clusters. -/
def FreshQ (n : Nat) (d : Array CluD) (w w' : World) (g : Nat) : Prop := n ≤ g ∧ RowQ w' g 0 d ∧ RowKit.Below w.heap.size w w'
theorem toClusterS_any (v : Value) (d : Array CluD) (w : World) (hv : SliceQ w v d) (hn : d.size ≤ 1048576) :
    Calls Tryz.prog 10 #[v] w fun x w' => ∃ g, x = .returned (.slice (some ⟨g, 0, none⟩) d.size d.size) ∧ FreshQ w.heap.size d w w' g := by
  rcases hv with ⟨p, cap, rfl, rfl⟩ | ⟨b, off, cap, rfl, _, _, hR⟩
  · refine (toClusterS_nil p cap w).mono fun x w' ⟨h1, h2⟩ => ⟨w.heap.size, h1, Nat.le_refl _, ?_, ?_⟩
    · rw [h2]
      exact ⟨by simp, fun j hj => absurd hj (Nat.not_lt_zero j), fun j hj => absurd hj (Nat.not_lt_zero j), fun j hj => absurd hj (Nat.not_lt_zero j)⟩
    · rw [h2]
      exact (Below.refl _ _).alloc (Nat.le_refl _) _
  · exact (toClusterS_row b off cap d w hR hn).mono fun x w' ⟨g, h1, h2, h3, h4⟩ => ⟨g, h1, h2, h3, h4⟩
/-! equality with itself -/
set_option maxHeartbeats 400000 in
theorem eqCluster_same (c : CluD) (w : World) : Calls Tryz.prog 46 #[aggQ c, aggQ c] w fun x w' => x = .returned (.bool true) ∧ RowKit.Below w.heap.size w w' := by
  unfold aggQ
  go_enter Tryz.func46, Tryz.ntmps46
  go_wp2
  go_ret
  exact ⟨rfl, ((Below.refl _ _).alloc (Nat.le_refl _) _).alloc (by simp) _⟩
set_option maxRecDepth 100000 in
set_option maxHeartbeats 400000 in
theorem eqClusterS_same (b1 o1 c1 b2 o2 c2 : Nat) (d : Array CluD) (w : World) (h1 : RowQ w b1 o1 d) (h2 : RowQ w b2 o2 d) (hn : d.size ≤ 1048576) :
    Calls Tryz.prog 13 #[.slice (some ⟨b1, o1, none⟩) d.size c1, .slice (some ⟨b2, o2, none⟩) d.size c2] w fun x w' => x = .returned (.bool true) ∧ RowKit.Below w.heap.size w w' := by
  have H1 := Lib.hid h1
  have H2 := Lib.hid h2
  have hn' : (d.size : Int) ≤ 1048576 := by omega
  clear h1 h2
  go_enter Tryz.func13, Tryz.ntmps13
  go_wp2
  go_loopw [5] (fun i wr => ∃ k : Nat, i = .int .i64 k ∧ k ≤ d.size ∧ Hid (RowKit.Below w.heap.size w wr) ∧ w.heap.size ≤ wr.heap.size) (fun i _ => d.size - (intOf i).toNat)
  case atStart => exact ⟨0, rfl, Nat.zero_le _, Below.refl _ _, Nat.le_refl _⟩
  case round =>
    obtain ⟨k, rfl, hk, HW, hw2⟩ := hrel
    by_cases hlt : k < d.size
    · have hx := H1.out.below HW.out
      have hy := H2.out.below HW.out
      have x0 := hx.first k hlt
      have x1 := hx.last k hlt
      have x2 := hx.kind k hlt
      have y0 := hy.first k hlt
      have y1 := hy.last k hlt
      have y2 := hy.kind k hlt
      obtain ⟨x, hxe⟩ : ∃ x, x = d[k]! := ⟨_, rfl⟩
      rw [← hxe] at x0 x1 x2 y0 y1 y2
      clear hxe
      have ob1 := hx.old
      have ob2 := hy.old
      clear hx hy
      have f0 := fun p : BW wr => p.cell ob1 x0
      have f1 := fun p : BW wr => p.cell ob1 x1
      have f2 := fun p : BW wr => p.cell ob1 x2
      have g0 := fun p : BW wr => p.cell ob2 y0
      have g1 := fun p : BW wr => p.cell ob2 y1
      have g2 := fun p : BW wr => p.cell ob2 y2
      clear x0 x1 x2 y0 y1 y2
      have hs1 : (0 : Int) ≤ (k : Int) := by omega
      have hs5 : (k : Int) < (d.size : Int) := by omega
      go_wp2
      refine wp_region_bw (by kernel_rfl) (by kernel_rfl) ?_
      repeat (go_big_quiet_step ((go_at_call 46; refine bw_of (eqCluster_same x _))))
      refine wpQuiet_nil ?_
      rintro _ ⟨p, rfl⟩
      go_wp2
      go_roundw
      case rel => exact ⟨k + 1, by go_num, by omega, HW.out.trans (p.h.mono hw2), Nat.le_trans hw2 p.h.size⟩
      case measure => simp [intOf]; omega
    · go_wp2
      go_ret
      exact ⟨rfl, HW.out⟩
end Go.Proofs.YtjpcpiffffobcaaGreatDoor
