
/- The law on PagesOf, walked: it returns true whatever the switch and the size. -/
import Derived.Test.YtmhloojnekjfhaaDoorKsPagD
import Derived.Test.YtmhloojnekjfhaaDoorKsIntMark
import Derived.Test.YtmhloojnekjfhaaDoorKsStrMark
import Derived.Deep.RegionHeld3
namespace Go.Proofs.YtmhloojnekjfhaaDoor
open Go.RowKit Go.Shelf Go.Lib Go.Sort

theorem HotI.any {W : World} {g N : Nat} (k : Nat) (h : HotI W g N 1 0) : HotI W g N k 0 := ⟨h.lt, h.has, h.cold, fun _ ht => absurd ht (Nat.not_lt_zero _)⟩
/-- What a slice value holds is marked from a number on. -/
def MarkedK (w : World) (v : Value) (n k : Nat) : Prop := ∀ g, v.ownBlock = some g → HotI w g n k n
theorem MarkedK.below {w w' : World} {v : Value} {n k : Nat} (h : MarkedK w v n k) (hb : RowKit.Below w.heap.size w w') : MarkedK w' v n k := fun g hg => (h g hg).below hb
theorem markOwnK_any {base k : Nat} {v : Value} {l : List Int} {w : World} (h : OwnsN base v l w) (hn : l.length ≤ 1048576) (hk : k ≤ 99999999) :
    Calls Tryd.prog 27 #[v, .int .i64 k] w fun x w' => x = .returned (.int .i64 ((k + l.length : Nat) : Int)) ∧ MarkedK w' v l.length k ∧ w.grownBy w' v.ownBlock := by
  rcases ownsN_form h with ⟨rfl, h0⟩ | ⟨g, cap, rfl, _, hh⟩
  · rw [h0]
    exact (markNilN_any none 0 k w).mono fun _ _ ⟨a, b⟩ => ⟨a, (fun g hg => by cases hg), (by rw [← b]; exact grownBy_same _ _)⟩
  · exact (markRowN_any g l.length cap k w (hh.any k) hn hk).mono fun _ _ ⟨a, b, c⟩ => ⟨a, (fun g' hg => by cases hg; exact b), c⟩
theorem heldOwnK_any {v : Value} {n k : Nat} {w : World} (hf : FormN v n) (h : MarkedK w v n k) (hn : n ≤ 1048576) (hk : k ≤ 99999999) :
    Calls Tryd.prog 29 #[v, .int .i64 k] w fun x w' => x = .returned (.int .i64 ((k + n : Nat) : Int)) ∧ RowKit.Below w.heap.size w w' := by
  rcases hf with ⟨rfl, rfl⟩ | ⟨g, cap, rfl⟩
  · exact (heldNilN_any none 0 k w).mono fun _ _ ⟨a, b⟩ => ⟨a, b ▸ Below.refl _ _⟩
  · exact heldRowN_any g n cap k w (h g rfl) hn hk
theorem HotS.kept {W W' : World} {row : Option Nat} {g N k m : Nat} (h : HotS W g N k m) (hg : W.grownBy W' row) (hne : some g ≠ row) : HotS W' g N k m := by
  have hb := hg.block g h.lt hne
  have hc : ∀ t, W'.cell? ⟨g, t, none⟩ = W.cell? ⟨g, t, none⟩ := fun t => World.cell?_of_block (w := W) hb
  exact ⟨Nat.lt_of_lt_of_le h.lt hg.size, fun t ht => by rw [hc]; exact h.has t ht, fun t ht => by rw [frozen_of_block hb]; exact h.cold t ht, fun t ht => by rw [hc]; exact h.marked t ht⟩
theorem MarkedT.kept {w w' : World} {row : Option Nat} {v : Value} {n : Nat} (h : MarkedT w v n) (hg : w.grownBy w' row) (hne : ∀ g, v.ownBlock = some g → some g ≠ row) : MarkedT w' v n := fun g e => (h g e).kept hg (hne g e)
/-- Pages and an index lie in different blocks: their cells' types differ. -/
theorem apart_pages {b1 b2 : Nat} {v u : Value} {L : List ByteArray} {I : List Int} {w : World} (h : OwnsT b1 v L w) (k : OwnsN b2 u I w) : ∀ g, v.ownBlock = some g → some g ≠ u.ownBlock := fun g hv hu => by
  rcases h.2 with ⟨rfl, _⟩ | ⟨g1, _, _, rfl, _, h1, _⟩
  · cases hv
  · rcases k.2 with ⟨rfl, _⟩ | ⟨g2, _, _, rfl, _, h2, _⟩
    · cases hu
    · cases hv
      cases hu
      rw [h1] at h2
      have ht : (9 : TypeId) = 3 := by injection h2 with h2; injection h2
      revert ht
      decide
/-- The pages and the index of the model's answer and of the program's. -/
structure Both (b0 b1 : Nat) (v0 u0 v1 u1 : Value) (L : List ByteArray) (I : List Int) (W : World) : Prop where
  t0 : OwnsT b0 v0 L W
  n0 : OwnsN b0 u0 I W
  t1 : OwnsT b1 v1 L W
  n1 : OwnsN b1 u1 I W
theorem Both.below {b0 b1 : Nat} {v0 u0 v1 u1 : Value} {L : List ByteArray} {I : List Int} {W W' : World} (h : Both b0 b1 v0 u0 v1 u1 L I W) (hb : RowKit.Below W.heap.size W W') : Both b0 b1 v0 u0 v1 u1 L I W' :=
  ⟨owns_below h.t0 hb, owns_below h.n0 hb, owns_below h.t1 hb, owns_below h.n1 hb⟩
theorem none_or {v : Value} {row : Option Nat} (h : ∀ g, v.ownBlock = some g → some g ≠ row) : v.ownBlock = none ∨ v.ownBlock ≠ row := by
  cases hv : v.ownBlock with
  | none => exact .inl rfl
  | some g => exact .inr (h g hv)

set_option maxRecDepth 100000 in
set_option maxHeartbeats 8000000 in
theorem lawPages_any (v : Value) (rest size : Int) (d : Array CaseD) (w : World) (hv : SliceC w v d) (hs : ∀ j, j < d.size → d[j]!.target.size ≤ maxLen) (hE : ErrAt w) :
    Calls Tryd.prog 4 #[.agg #[v, .int .i64 rest], .int .i64 size] w fun x w' => x = .returned (.bool true) ∧ RowKit.Below w.heap.size w w' := by
  have HV := Lib.hid hv
  have HE := Lib.hid hE
  have hsz := Lib.hid (fun W (hW : RowKit.Below w.heap.size w W) => szSwitch_any v rest d W (hv.below hW) hs)
  have hto := fun (hn : d.size ≤ 1048576) W (hW : RowKit.Below w.heap.size w W) => toSwitch_any v rest d W (hv.below hW) hn
  have htoH := fun (hn : d.size ≤ 1048576) W (hW : RowKit.Below w.heap.size w W) => toSwitch_hot v rest d W (hv.below hW) hn
  have HTO := Lib.hid hto
  have HTOH := Lib.hid htoH
  clear hv hs hE hto htoH
  go_enter Tryd.func4, Tryd.ntmps4
  go_wp2_with fail
  -- the argument's box
  obtain ⟨wa, hwa⟩ : ∃ wa, wa = w.alloc (.cells #[v, .int .i64 rest] 44) := ⟨_, rfl⟩
  have c0 : wa.cell? ⟨w.heap.size, 0, none⟩ = some v := by rw [hwa]; simp
  have c1 : wa.cell? ⟨w.heap.size, 1, none⟩ = some (.int .i64 rest) := by rw [hwa]; simp
  have hz : wa.heap.size = w.heap.size + 1 := by rw [hwa]; simp
  have hba : RowKit.Below w.heap.size w wa := by rw [hwa]; exact (Below.refl _ _).alloc (Nat.le_refl _) _
  rw [← hwa]
  have HA := Lib.hid hba
  have C0 := Lib.hid c0
  have C1 := Lib.hid c1
  clear hwa hba c0 c1
  -- whatever is as wa was below its size is as w was below w's
  have HOF := Lib.hid (fun (W : World) (h : RowKit.Below wa.heap.size wa W) => HA.out.trans (h.mono (by omega : w.heap.size ≤ wa.heap.size)))
  refine (hsz.out _ HA.out).mono ?_
  rintro x w1 ⟨r, rfl, hr, hb1⟩
  have HR := Lib.hid hr
  have B1 := Lib.hid hb1
  have a0 := (hb1.cell (p := ⟨w.heap.size, 0, none⟩) (by omega : w.heap.size < wa.heap.size)).trans C0.out
  have a1 := (hb1.cell (p := ⟨w.heap.size, 1, none⟩) (by omega : w.heap.size < wa.heap.size)).trans C1.out
  clear hr hb1 hsz
  go_wp2_with fail
  · go_ret
    exact ⟨rfl, HOF.out _ B1.out⟩
  · have hr0 : 0 ≤ r := by assumption
    have hn := HR.out hr0
    have HN := Lib.hid hn
    have hml : d.size ≤ maxLen := by unfold maxLen; omega
    have HML := Lib.hid hml
    clear hn HR a0 a1 hml
    -- the model's answer
    refine (HTO.out HN.out _ (HOF.out _ B1.out)).mono ?_
    rintro x w2 ⟨g1, rfl, hf1⟩
    have B2 := Lib.hid (B1.out.trans (hf1.2.2.mono B1.out.size))
    have R2 := Lib.hid hf1.2.1
    clear hf1
    go_wp2_with fail
    refine (specPagesOf_any g1 0 d.size d rest size w2 R2.out (Nat.le_refl _) HML.out).mono ?_
    rintro x w3 ⟨v0, u0, rfl, ho, hq, hb3⟩
    have O3 := Lib.hid (show OwnsT w2.heap.size v0 (pagesN d rest size) w3 from ho)
    have Q3 := Lib.hid (show OwnsN w2.heap.size u0 (indexN d rest size) w3 from hq)
    have B3 := Lib.hid (B2.out.trans (hb3.mono B2.out.size))
    have hz3 := hb3.size
    have hwa3 : wa.heap.size ≤ w3.heap.size := B3.out.size
    have a0 := (B3.out.cell (p := ⟨w.heap.size, 0, none⟩) (by omega : w.heap.size < wa.heap.size)).trans C0.out
    have a1 := (B3.out.cell (p := ⟨w.heap.size, 1, none⟩) (by omega : w.heap.size < wa.heap.size)).trans C1.out
    clear ho hq hb3
    have HLL := Lib.hid (show (pagesN d rest size).length ≤ 1048576 by
      unfold pagesN pagL
      split
      · have h1 := pagesTo_length d size.toNat (32 / size.toNat)
        have h2 := Nat.div_le_self 32 size.toNat
        omega
      · exact Nat.zero_le _)
    have HLI := Lib.hid (show (indexN d rest size).length ≤ 1048576 by
      unfold indexN idxL
      split
      · have h1 := indexTo_length d size.toNat (32 / size.toNat)
        have h2 := Nat.div_le_self 32 size.toNat
        omega
      · exact Nat.zero_le _)
    obtain ⟨L, hL⟩ : ∃ L, L = pagesN d rest size := ⟨_, rfl⟩
    obtain ⟨I, hI⟩ : ∃ I, I = indexN d rest size := ⟨_, rfl⟩
    obtain ⟨ok, hok⟩ : ∃ ok, ok = pagB d rest size := ⟨_, rfl⟩
    have HIS := Lib.hid (fun (b off cap : Nat) (W : World) (hR : RowC W b off d) (hE : ErrAt W) (hc : d.size ≤ cap) (hm : cap ≤ maxLen) => implPagesOf_any b off cap d rest size W hR hE hc hm)
    unfold Pag3 at HIS
    rw [← hL] at O3 HLL HIS
    rw [← hI] at Q3 HLI HIS
    rw [← hok] at HIS ⊢
    clear hL hI hok
    go_wp2_with fail
    -- the program's argument
    refine (HTOH.out HN.out _ (HOF.out _ B3.out)).mono ?_
    rintro x w4 ⟨g2, rfl, hf2⟩
    have B4 := Lib.hid (B3.out.trans (hf2.2.2.mono B3.out.size))
    have O4 := Lib.hid (owns_below O3.out hf2.2.2)
    have Q4 := Lib.hid (owns_below Q3.out hf2.2.2)
    have H4 := Lib.hid hf2.2.1
    have hg2 := hf2.1
    have hz4 := hf2.2.2.size
    clear hf2 a0 a1
    go_wp2_with fail
    obtain ⟨w5, hw5⟩ : ∃ w5, w5 = w4.alloc (.cells #[.slice (some ⟨g2, 0, none⟩) d.size d.size, .int .i64 rest] 25) := ⟨_, rfl⟩
    have d0 : w5.cell? ⟨w4.heap.size, 0, none⟩ = some (.slice (some ⟨g2, 0, none⟩) d.size d.size) := by rw [hw5]; simp
    have d1 : w5.cell? ⟨w4.heap.size, 1, none⟩ = some (.int .i64 rest) := by rw [hw5]; simp
    have hz5 : w5.heap.size = w4.heap.size + 1 := by rw [hw5]; simp
    have hb5 : RowKit.Below w4.heap.size w4 w5 := by rw [hw5]; exact (Below.refl _ _).alloc (Nat.le_refl _) _
    rw [← hw5]
    have D0 := Lib.hid d0
    have D1 := Lib.hid d1
    have B5 := Lib.hid (B4.out.trans (hb5.mono B4.out.size))
    have O5 := Lib.hid (owns_below O4.out hb5)
    have Q5 := Lib.hid (owns_below Q4.out hb5)
    have H5 := Lib.hid (H4.out.below hb5)
    have hg2l := H4.out.1.old
    clear hw5 d0 d1 hb5
    refine (HIS.out g2 0 d.size w5 H5.out.1 (HE.out.below (HOF.out _ B5.out)) (Nat.le_refl _) HML.out).mono ?_
    rintro x w6 ⟨v1, u1, rfl, ho1, hq1, hb6⟩
    have X6 := Lib.hid (show Both w2.heap.size w5.heap.size v0 u0 v1 u1 L I w6 from ⟨owns_below O5.out hb6, owns_below Q5.out hb6, ho1, hq1⟩)
    have B6 := Lib.hid (B5.out.trans (hb6.mono B5.out.size))
    have H6 := Lib.hid (H5.out.below hb6)
    have E60 := Lib.hid ((hb6.cell (p := ⟨w4.heap.size, 0, none⟩) (by omega : w4.heap.size < w5.heap.size)).trans D0.out)
    have E61 := Lib.hid ((hb6.cell (p := ⟨w4.heap.size, 1, none⟩) (by omega : w4.heap.size < w5.heap.size)).trans D1.out)
    have hz6 := hb6.size
    clear ho1 hq1 hb6
    -- where the answers lie
    have V0 := Lib.hid (fun q (e : v0.ownBlock = some q) => (show q < w3.heap.size from (World.ownsRow.lt O3.out q e).2))
    have U0 := Lib.hid (fun q (e : u0.ownBlock = some q) => (show q < w3.heap.size from (World.ownsRow.lt Q3.out q e).2))
    have V1 := Lib.hid (fun q (e : v1.ownBlock = some q) => (show w5.heap.size ≤ q from (World.ownsRow.lt X6.out.t1 q e).1))
    have U1 := Lib.hid (fun q (e : u1.ownBlock = some q) => (show w5.heap.size ≤ q from (World.ownsRow.lt X6.out.n1 q e).1))
    have AP := Lib.hid (apart_pages X6.out.t1 X6.out.n1)
    have FT := Lib.hid (owns_formT X6.out.t1)
    have FN := Lib.hid (owns_formN X6.out.n1)
    go_wp2_with fail
    refine (eqOwnT_any X6.out.t1 X6.out.t0 HLL.out).mono ?_
    rintro x w6b ⟨rfl, hb6b⟩
    have X6b := Lib.hid (X6.out.below hb6b)
    have B6b := Lib.hid (B6.out.trans (hb6b.mono B6.out.size))
    have H6b := Lib.hid (H6.out.below hb6b)
    have hz6b := hb6b.size
    go_wp2_with fail
    refine (eqOwnN_any X6b.out.n1 X6b.out.n0 HLI.out).mono ?_
    rintro x w7 ⟨rfl, hb7⟩
    have hz7b := hb7.size
    have hb67 := hb6b.trans (hb7.mono hb6b.size)
    have X7 := Lib.hid (X6b.out.below hb7)
    have B7 := Lib.hid (B6b.out.trans (hb7.mono B6b.out.size))
    have H7 := Lib.hid (H6b.out.below hb7)
    have e0 := (hb67.cell (p := ⟨w4.heap.size, 0, none⟩) (by omega : w4.heap.size < w6.heap.size)).trans E60.out
    have e1 := (hb67.cell (p := ⟨w4.heap.size, 1, none⟩) (by omega : w4.heap.size < w6.heap.size)).trans E61.out
    have a0 := (B7.out.cell (p := ⟨w.heap.size, 0, none⟩) (by omega : w.heap.size < wa.heap.size)).trans C0.out
    have a1 := (B7.out.cell (p := ⟨w.heap.size, 1, none⟩) (by omega : w.heap.size < wa.heap.size)).trans C1.out
    have hz7 := hb67.size
    clear hb7 hb6b hb67
    go_wp2_with fail
    have hsw7 : w4.heap.size < w7.heap.size := by omega
    go_region_with (first
      | (go_at_call 21; refine (HTO.out HN.out _ (HOF.out _ B7.out.drew)).mono ?_; rintro x w8 ⟨g3, rfl, hf3⟩; have hk8 := (Below.refl w7.heap.size w7).drew.trans hf3.2.2; have K8 := Lib.hid hk8; have R8 := Lib.hid hf3.2.1; have e2 := (hk8.cell (p := ⟨w4.heap.size, 0, none⟩) hsw7).trans e0; have e3 := (hk8.cell (p := ⟨w4.heap.size, 1, none⟩) hsw7).trans e1; clear hf3 hk8)
      | (go_at_call 24; refine (eqSwitch_same g2 0 d.size g3 0 d.size rest d _ (H7.out.below K8.out).1 R8.out HN.out).mono ?_; rintro x w9 ⟨rfl, hb9⟩; have K9 := Lib.hid (K8.out.trans (hb9.mono K8.out.size)); clear hb9))
    all_goals
      have B9 := Lib.hid (B7.out.trans (K9.out.mono B7.out.size))
      have X9 := Lib.hid (X7.out.below K9.out)
      have H9 := Lib.hid (H7.out.below K9.out)
      have e4 := (K9.out.cell (p := ⟨w4.heap.size, 0, none⟩) hsw7).trans e0
      have e5 := (K9.out.cell (p := ⟨w4.heap.size, 1, none⟩) hsw7).trans e1
      have hz9 := K9.out.size
      clear e0 e1 e2 e3 a0 a1
      -- the argument is marked
      have hm := markSw_any g2 d.size d.size rest w9 H9.out.2 HN.out
      obtain ⟨mk, hmk⟩ : ∃ mk, mk = ((1 + d.size * 4 : Nat) : Int) := ⟨_, rfl⟩
      rw [← hmk] at hm
      have hmk0 := decide_negN (show 0 ≤ mk by omega)
      have HM := Lib.hid hm
      clear hm hmk
      go_wp2_with fail
      refine HM.out.mono ?_
      rintro x w10 ⟨rfl, hg10⟩
      have B10 := Lib.hid (B9.out.grown hg10 B9.out.size (fun k e => by cases e; omega))
      have hv0 := V0.out g2
      have hu0 := U0.out g2
      have hv1 := V1.out g2
      have hu1 := U1.out g2
      have X10 := Lib.hid (show Both w2.heap.size w5.heap.size v0 u0 v1 u1 L I w10 from ⟨World.ownsRow.kept X9.out.t0 hg10 (.inr (fun e => by have := hv0 e; omega)), World.ownsRow.kept X9.out.n0 hg10 (.inr (fun e => by have := hu0 e; omega)), World.ownsRow.kept X9.out.t1 hg10 (.inr (fun e => by have := hv1 e; omega)), World.ownsRow.kept X9.out.n1 hg10 (.inr (fun e => by have := hu1 e; omega))⟩)
      have hz10 := hg10.size
      clear hg10 e4 e5 hv0 hu0 hv1 hu1
      go_wp2_with fail
      refine (eqOwnT_any X10.out.t1 X10.out.t0 HLL.out).mono ?_
      rintro x w10b ⟨rfl, hb10b⟩
      have X10b := Lib.hid (X10.out.below hb10b)
      have B10b := Lib.hid (B10.out.trans (hb10b.mono B10.out.size))
      clear hb10b
      go_wp2_with fail
      refine (eqOwnN_any X10b.out.n1 X10b.out.n0 HLI.out).mono ?_
      rintro x w11 ⟨rfl, hb11⟩
      have X11 := Lib.hid (X10b.out.below hb11)
      have B11 := Lib.hid (B10b.out.trans (hb11.mono B10b.out.size))
      clear hb11
      -- the results are marked, and the marks stand
      have hm2 := markOwnT_any X11.out.t1 HLL.out
      have hm3 := fun W (h : OwnsN w5.heap.size u1 I W) => markOwnK_any (k := 1 + L.length) h HLI.out (by have := HLL.out; omega)
      have hh2 := fun W (hM : MarkedT W v1 L.length) => heldOwnT_any FT.out hM HLL.out
      have hh3 := fun W (hM : MarkedK W u1 I.length (1 + L.length)) => heldOwnK_any FN.out hM HLI.out (by have := HLL.out; omega)
      obtain ⟨mq, hmq⟩ : ∃ mq, mq = ((1 + L.length : Nat) : Int) := ⟨_, rfl⟩
      obtain ⟨mr, hmr⟩ : ∃ mr, mr = ((1 + L.length + I.length : Nat) : Int) := ⟨_, rfl⟩
      rw [← hmq] at hm2 hh2 hm3 hh3
      rw [← hmr] at hm3 hh3
      have hmq0 := decide_negN (show 0 ≤ mq by omega)
      have hmr0 := decide_negN (show 0 ≤ mr by omega)
      have HM2 := Lib.hid hm2
      have HM3 := Lib.hid hm3
      have HH2 := Lib.hid hh2
      have HH3 := Lib.hid hh3
      clear hm2 hm3 hh2 hh3 hmq hmr
      go_wp2_with fail
      refine HM2.out.mono ?_
      rintro x w12 ⟨rfl, hM12, hg12⟩
      have M12 := Lib.hid hM12
      have B12 := Lib.hid (B11.out.grown hg12 B11.out.size (fun k e => by have := V1.out k e; omega))
      have O12 := Lib.hid (show OwnsT w2.heap.size v0 L w12 from World.ownsRow.kept X11.out.t0 hg12 (none_or fun q e e2 => by have := V0.out q e; have := V1.out q e2.symm; omega))
      have Q12 := Lib.hid (show OwnsN w2.heap.size u0 I w12 from World.ownsRow.kept X11.out.n0 hg12 (none_or fun q e e2 => by have := U0.out q e; have := V1.out q e2.symm; omega))
      have N12 := Lib.hid (show OwnsN w5.heap.size u1 I w12 from World.ownsRow.kept X11.out.n1 hg12 (none_or fun q e e2 => AP.out q e2.symm e.symm))
      clear hM12 hg12
      go_wp2_with fail
      refine (HM3.out _ N12.out).mono ?_
      rintro x w12b ⟨rfl, hM13, hg13⟩
      have K12 := Lib.hid hM13
      have M12b := Lib.hid (M12.out.kept hg13 AP.out)
      have B12b := Lib.hid (B12.out.grown hg13 B12.out.size (fun k e => by have := U1.out k e; omega))
      have O12b := Lib.hid (show OwnsT w2.heap.size v0 L w12b from World.ownsRow.kept O12.out hg13 (none_or fun q e e2 => by have := V0.out q e; have := U1.out q e2.symm; omega))
      have Q12b := Lib.hid (show OwnsN w2.heap.size u0 I w12b from World.ownsRow.kept Q12.out hg13 (none_or fun q e e2 => by have := U0.out q e; have := U1.out q e2.symm; omega))
      clear hM13 hg13
      go_wp2_with fail
      refine (HH2.out _ M12b.out).mono ?_
      rintro x w12c ⟨rfl, hb12⟩
      have M12c := Lib.hid (M12b.out.below hb12)
      have K12c := Lib.hid (K12.out.below hb12)
      have B12c := Lib.hid (B12b.out.trans (hb12.mono B12b.out.size))
      have O12c := Lib.hid (owns_below O12b.out hb12)
      have Q12c := Lib.hid (owns_below Q12b.out hb12)
      clear hb12
      go_wp2_with fail
      refine (HH3.out _ K12c.out).mono ?_
      rintro x w13 ⟨rfl, hb13⟩
      have M13 := Lib.hid (M12c.out.below hb13)
      have K13 := Lib.hid (K12c.out.below hb13)
      have B13 := Lib.hid (B12c.out.trans (hb13.mono B12c.out.size))
      have O13 := Lib.hid (owns_below O12c.out hb13)
      have Q13 := Lib.hid (owns_below Q12c.out hb13)
      have a0 := (B13.out.cell (p := ⟨w.heap.size, 0, none⟩) (by omega : w.heap.size < wa.heap.size)).trans C0.out
      have a1 := (B13.out.cell (p := ⟨w.heap.size, 1, none⟩) (by omega : w.heap.size < wa.heap.size)).trans C1.out
      clear hb13
      go_wp2_with fail
      refine (HTO.out HN.out _ (HOF.out _ B13.out)).mono ?_
      rintro x w14 ⟨g4, rfl, hf4⟩
      have M14 := Lib.hid (M13.out.below hf4.2.2)
      have K14 := Lib.hid (K13.out.below hf4.2.2)
      have B14 := Lib.hid (B13.out.trans (hf4.2.2.mono B13.out.size))
      have O14 := Lib.hid (owns_below O13.out hf4.2.2)
      have Q14 := Lib.hid (owns_below Q13.out hf4.2.2)
      have R14 := Lib.hid hf4.2.1
      clear hf4 a0 a1
      go_wp2_with fail
      refine (HIS.out g4 0 d.size w14 R14.out (HE.out.below (HOF.out _ B14.out)) (Nat.le_refl _) HML.out).mono ?_
      rintro x w15 ⟨v2, u2, rfl, ho2, hq2, hb15⟩
      have X15 := Lib.hid (show Both w2.heap.size w14.heap.size v0 u0 v2 u2 L I w15 from ⟨owns_below O14.out hb15, owns_below Q14.out hb15, ho2, hq2⟩)
      have M15 := Lib.hid (M14.out.below hb15)
      have K15 := Lib.hid (K14.out.below hb15)
      have B15 := Lib.hid (B14.out.trans (hb15.mono B14.out.size))
      clear ho2 hq2 hb15
      go_wp2_with fail
      refine (eqOwnT_any X15.out.t1 X15.out.t0 HLL.out).mono ?_
      rintro x w15b ⟨rfl, hb15b⟩
      have X15b := Lib.hid (X15.out.below hb15b)
      have M15b := Lib.hid (M15.out.below hb15b)
      have K15b := Lib.hid (K15.out.below hb15b)
      have B15b := Lib.hid (B15.out.trans (hb15b.mono B15.out.size))
      clear hb15b
      go_wp2_with fail
      refine (eqOwnN_any X15b.out.n1 X15b.out.n0 HLI.out).mono ?_
      rintro x w16 ⟨rfl, hb16⟩
      have M16 := Lib.hid (M15b.out.below hb16)
      have K16 := Lib.hid (K15b.out.below hb16)
      have B16 := Lib.hid (B15b.out.trans (hb16.mono B15b.out.size))
      clear hb16
      go_wp2_with fail
      refine (HH2.out _ M16.out).mono ?_
      rintro x w16b ⟨rfl, hb16b⟩
      have K16b := Lib.hid (K16.out.below hb16b)
      have B16b := Lib.hid (B16.out.trans (hb16b.mono B16.out.size))
      clear hb16b
      go_wp2_with fail
      refine (HH3.out _ K16b.out).mono ?_
      rintro x w17 ⟨rfl, hb17⟩
      have B17 := Lib.hid (B16b.out.trans (hb17.mono B16b.out.size))
      clear hb17
      go_wp2
      go_ret
      exact ⟨rfl, HOF.out _ B17.out⟩
end Go.Proofs.YtmhloojnekjfhaaDoor
