/- FirstOther: the program's and the model's. -/
import Derived.Test.YtlcekocbaffnnaaDoorKsPull
import Derived.Test.YtlcekocbaffnnaaDoorKsOtherR
import Derived.Deep.DeepCutAuto
import Derived.Deep.LoopGhost
namespace Go.Proofs.YtlcekocbaffnnaaDoor
open Go.RowKit Go.Shelf Go.Lib Go.Sort

theorem heap_set {W : World} {B i : Nat} {v : Value} {cs : Array Value} {t : TypeId} {f : Nat × Nat} (h : W.heap[B]? = some (.cells cs t f)) : (W.setCell ⟨B, i, none⟩ v).heap[B]? = some (.cells (cs.setIfInBounds i v) t f) := by
  obtain ⟨hlt, hk⟩ := Array.getElem?_eq_some_iff.1 h
  show (W.heap.modify B _)[B]? = _
  rw [Array.getElem?_eq_getElem (by rw [Array.size_modify]; exact hlt), Array.getElem_modify_self, hk]
  rfl
theorem Box4.frozen {W : World} {B : Nat} {x : CaseD} (h : Box4 W B x) (i : Nat) : W.frozen? ⟨B, i, none⟩ = false := by simp [World.frozen?, show W.heap[B]? = _ from h]
def store4 (W : World) (B : Nat) (y : CaseD) : World := (((W.setCell ⟨B, 0, none⟩ (.int .i64 y.low)).setCell ⟨B, 1, none⟩ (.int .i64 y.high)).setCell ⟨B, 2, none⟩ (.string y.target)).setCell ⟨B, 3, none⟩ (.int .i64 y.weight)
theorem Box4.store {W : World} {B : Nat} {x : CaseD} (h : Box4 W B x) (y : CaseD) : Box4 (store4 W B y) B y := heap_set (i := 3) (heap_set (i := 2) (heap_set (i := 1) (heap_set (i := 0) h)))
theorem grown_store4 (W : World) (B : Nat) (y : CaseD) : W.grownBy (store4 W B y) (some B) := grown_trans (grown_trans (grown_trans (grown_set _ B 0 _) (grown_set _ B 1 _)) (grown_set _ B 2 _)) (grown_set _ B 3 _)
/-- What the loop of FirstOther holds. -/
structure OthAt (W : World) (w : World) (n₀ b7 b9 Xa Xb : Nat) (S : Nat → Prop) (x y : CaseD) (t u : List CaseD) : Prop where
  bx : Box4 W b7 x
  bY : Box4 W b9 y
  pa : PullAt W Xa S t
  pb : PullAt W Xb S u
  below : RowKit.Below n₀ w W
theorem belowG {n₀ : Nat} {w W W' : World} {row : Option Nat} (h : RowKit.Below n₀ w W) (hn : n₀ ≤ W.heap.size) (hg : W.grownBy W' row) (hr : ∀ k, row = some k → n₀ ≤ k) : RowKit.Below n₀ w W' := h.grown hg hn hr

noncomputable def otherN (da : Array CaseD) (ra : Int) (db : Array CaseD) (rb : Int) : Int := if swB da ra = true ∧ swB db rb = true then firstB (diffB da db) 32 else -1

set_option maxRecDepth 100000 in
set_option maxHeartbeats 4000000 in
theorem implOther_any (b1 o1 c1 b2 o2 c2 : Nat) (da db : Array CaseD) (ra rb : Int) (w : World) (hA : RowC w b1 o1 da) (hB : RowC w b2 o2 db) (hE : ErrAt w) (hc1 : da.size ≤ c1) (hm1 : c1 ≤ maxLen) (hc2 : db.size ≤ c2) (hm2 : c2 ≤ maxLen) :
    Calls Tryd.prog 45 #[.agg #[.slice (some ⟨b1, o1, none⟩) da.size c1, .int .i64 ra], .agg #[.slice (some ⟨b2, o2, none⟩) db.size c2, .int .i64 rb]] w fun x w' => x = .returned (.int .i64 (otherN da ra db rb)) ∧ RowKit.Below w.heap.size w w' := by
  have hva := fun W (hW : RowKit.Below w.heap.size w W) => switchValid_any b1 o1 c1 da ra W (hA.below hW) (hE.below hW) hc1 hm1
  have hvb := fun W (hW : RowKit.Below w.heap.size w W) => switchValid_any b2 o2 c2 db rb W (hB.below hW) (hE.below hW) hc2 hm2
  have RA := Lib.hid hA
  have RB := Lib.hid hB
  obtain ⟨wa, hwa⟩ : ∃ wa, wa = (w.alloc (.cells #[.slice (some ⟨b1, o1, none⟩) da.size c1, .int .i64 ra] 25)).alloc (.cells #[.slice (some ⟨b2, o2, none⟩) db.size c2, .int .i64 rb] 25) := ⟨_, rfl⟩
  have x0 : wa.cell? ⟨w.heap.size, 0, none⟩ = some (.slice (some ⟨b1, o1, none⟩) da.size c1) := by rw [hwa]; simp [go_sem]
  have x1 : wa.cell? ⟨w.heap.size, 1, none⟩ = some (.int .i64 ra) := by rw [hwa]; simp [go_sem]
  have y0 : wa.cell? ⟨w.heap.size + 1, 0, none⟩ = some (.slice (some ⟨b2, o2, none⟩) db.size c2) := by rw [hwa]; simp [go_sem]
  have y1 : wa.cell? ⟨w.heap.size + 1, 1, none⟩ = some (.int .i64 rb) := by rw [hwa]; simp [go_sem]
  have hz : wa.heap.size = w.heap.size + 2 := by rw [hwa]; simp
  have hba : RowKit.Below w.heap.size w wa := by rw [hwa]; exact ((Below.refl _ _).alloc (Nat.le_refl _) _).alloc (by simp) _
  have HA := Lib.hid hba
  have X0 := Lib.hid x0
  have X1 := Lib.hid x1
  have Y0 := Lib.hid y0
  have Y1 := Lib.hid y1
  have HWA := Lib.hid hwa
  clear hba x0 x1 y0 y1 hwa hA hB hE
  cases hsa : swB da ra <;> cases hsb : swB db rb
  all_goals
    simp only [hsa] at hva
    simp only [hsb] at hvb
    have VA := Lib.hid hva
    have VB := Lib.hid hvb
    have SA := Lib.hid hsa
    have SB := Lib.hid hsb
    clear hva hvb hsa hsb
    go_enter Tryd.func45, Tryd.ntmps45
    go_wp2_with fail
    rw [← HWA.out]
    refine (VA.out _ HA.out).mono ?_
    rintro x w1 ⟨rfl, hb⟩
    have B1 := Lib.hid (HA.out.trans (hb.mono (by omega)))
    have hz1 := hb.size
    have a0 := (hb.cell (p := ⟨w.heap.size, 0, none⟩) (by omega : w.heap.size < wa.heap.size)).trans X0.out
    have a1 := (hb.cell (p := ⟨w.heap.size, 1, none⟩) (by omega : w.heap.size < wa.heap.size)).trans X1.out
    have e0 := (hb.cell (p := ⟨w.heap.size + 1, 0, none⟩) (by omega : w.heap.size + 1 < wa.heap.size)).trans Y0.out
    have e1 := (hb.cell (p := ⟨w.heap.size + 1, 1, none⟩) (by omega : w.heap.size + 1 < wa.heap.size)).trans Y1.out
    clear hb
    go_wp2_with fail
  iterate 2
    · go_ret
      exact ⟨retI (by rw [otherN, if_neg (by rw [SA.out]; simp)]), B1.out⟩
  · refine (VB.out _ B1.out).mono ?_
    rintro x w2 ⟨rfl, hb⟩
    have B2 := Lib.hid (B1.out.trans (hb.mono B1.out.size))
    clear hb a0 a1 e0 e1
    go_wp2_with fail
    go_ret
    exact ⟨retI (by rw [otherN, if_neg (by rw [SB.out]; simp)]), B2.out⟩
  · refine (VB.out _ B1.out).mono ?_
    rintro x w2 ⟨rfl, hb⟩
    have B2 := Lib.hid (B1.out.trans (hb.mono B1.out.size))
    have hz2 := hb.size
    have a0' := (hb.cell (p := ⟨w.heap.size, 0, none⟩) (by omega : w.heap.size < w1.heap.size)).trans a0
    have a1' := (hb.cell (p := ⟨w.heap.size, 1, none⟩) (by omega : w.heap.size < w1.heap.size)).trans a1
    have e0' := (hb.cell (p := ⟨w.heap.size + 1, 0, none⟩) (by omega : w.heap.size + 1 < w1.heap.size)).trans e0
    have e1' := (hb.cell (p := ⟨w.heap.size + 1, 1, none⟩) (by omega : w.heap.size + 1 < w1.heap.size)).trans e1
    have OKA := Lib.hid ((swB_iff _ _).1 SA.out)
    have OKB := Lib.hid ((swB_iff _ _).1 SB.out)
    have hl0 : w.heap.size < w2.heap.size := by omega
    have hl1 : w.heap.size + 1 < w2.heap.size := by omega
    clear hb a0 a1 e0 e1
    go_wp2_with fail
    go_cut [5, 6] (fun s5 s6 wx => ∃ Xa Xb : Nat, s5 = .func (.func 126) #[] #[.pointer (some ⟨Xa, 0, none⟩)] ∧ s6 = .func (.func 126) #[] #[.pointer (some ⟨Xb, 0, none⟩)] ∧
      Hid ((Xa ≠ Xb ∧ w.heap.size ≤ Xa ∧ w.heap.size ≤ Xb ∧ Xa < wx.heap.size ∧ Xb < wx.heap.size) ∧ PullAt wx Xa (fun g => g = Xa ∨ g = Xb ∨ wx.heap.size ≤ g) (segs da ra) ∧ PullAt wx Xb (fun g => g = Xa ∨ g = Xb ∨ wx.heap.size ≤ g) (segs db rb)) ∧ Hid (RowKit.Below w.heap.size w wx))
    case first =>
      go_region_with (first
        | (go_at_call 83; refine (segmentsIn_any _ _ _ _ _).mono ?_; rintro x w' ⟨rfl, rfl⟩)
        | (go_at_call 97; ((with_reducible refine (pullFrom_any w2.heap.size b1 o1 c1 da ra _ (by simp [go_sem]) (by simp [go_sem]) (RA.out.below (B2.out.alloc B2.out.size _).drew) OKA.out).mono ?_); rintro x w3 ⟨Xa, rfl, hXa, hpa, hb3⟩; have PA := Lib.hid hpa; have LA := Lib.hid hXa; have B3 := Lib.hid ((B2.out.alloc B2.out.size _).drew.trans (hb3.mono (B2.out.alloc B2.out.size _).drew.size)); have hz3 := Lib.hid hb3.size; have hlz := (by simp; omega : w.heap.size + 1 < ((w2.alloc (.cells #[.slice (some ⟨b1, o1, none⟩) da.size c1, .int .i64 ra] 25)).drew).heap.size); have e2 := (hb3.cell (p := ⟨w.heap.size + 1, 0, none⟩) hlz).trans (by simp [go_sem, e0', hl1] : _ = some (.slice (some ⟨b2, o2, none⟩) db.size c2)); have e3 := (hb3.cell (p := ⟨w.heap.size + 1, 1, none⟩) hlz).trans (by simp [go_sem, e1', hl1] : _ = some (.int .i64 rb)); clear hpa hXa hb3))
        | (go_at_call 97; ((with_reducible refine (pullFrom_any w3.heap.size b2 o2 c2 db rb _ (by simp [go_sem]) (by simp [go_sem]) (RB.out.below (B3.out.alloc B3.out.size _)) OKB.out).mono ?_); rintro x w4 ⟨Xb, rfl, hXb, hpb, hb4⟩; have PB := Lib.hid hpb; have LB := Lib.hid hXb; have K4 := Lib.hid hb4; clear hpb hXb hb4)))
      all_goals
        go_wp2_with fail
        go_meet
        have K5 := K4.out
        have hsz3 := K5.size
        simp only [World.size_alloc] at hsz3
        have hlb := LB.out
        simp only [World.size_alloc] at hlb
        have hla := LA.out
        have hz9 := hz3.out
        have hz8 := B2.out.size
        simp at hla hz9
        refine ⟨Xa, Xb, rfl, rfl, ⟨⟨by omega, by omega, by omega, by omega, by omega⟩, ?_, ?_⟩, (B3.out.alloc B3.out.size _).trans (K5.mono (B3.out.alloc B3.out.size _).size)⟩
        · refine ((PA.out _ (fun g hg => ?_)).kept (World.grownBy_alloc w3 _ none) (by simp) (fun g e => nomatch e)).kept (grown_of_below K5) (by simp) (fun g e => nomatch e)
          rcases hg with rfl | rfl | h
          · exact .inr (.inr rfl)
          · exact .inr (.inl (by omega))
          · exact .inr (.inl (by omega))
        · refine PB.out _ (fun g hg => ?_)
          rcases hg with rfl | rfl | h
          · exact .inl (by simp; omega)
          · exact .inr (.inr rfl)
          · exact .inr (.inl h)
    case rest =>
      obtain ⟨Xa, Xb, rfl, rfl, HP, HB⟩ := hcut
      obtain ⟨iA, tA, hsA⟩ := segs_some OKA.out
      obtain ⟨iB, tB, hsB⟩ := segs_some OKB.out
      have RUN := Lib.hid (run_first OKA.out OKB.out hsA hsB)
      have hlA := segs_length OKA.out
      have hlB := segs_length OKB.out
      rw [hsA, List.length_cons] at hlA
      rw [hsB, List.length_cons] at hlB
      obtain ⟨⟨hne, hXa, hXb, hXal, hXbl⟩, hpA, hpB⟩ := HP.out
      rw [hsA] at hpA
      rw [hsB] at hpB
      obtain ⟨SS, hSS⟩ : ∃ SS : Nat → Prop, SS = fun g => g = Xa ∨ g = Xb ∨ wc.heap.size ≤ g := ⟨_, rfl⟩
      rw [← hSS] at hpA hpB
      have SXa : SS Xa := by rw [hSS]; exact .inl rfl
      have SXb : SS Xb := by rw [hSS]; exact .inr (.inl rfl)
      have SN := Lib.hid (fun g (h : wc.heap.size ≤ g) => (show SS g by rw [hSS]; exact .inr (.inr h)))
      have HSA := Lib.hid SXa
      have HSB := Lib.hid SXb
      have CA : Hid (Calls Tryd.prog 126 #[.pointer (some ⟨Xa, 0, none⟩)] wc fun x w' => x = .returned (.tuple #[.agg #[.int .i64 iA.low, .int .i64 iA.high, .string iA.target, .int .i64 iA.weight], .bool true]) ∧ PullAt w' Xa SS tA ∧ wc.grownBy w' (some Xa)) := pull_some Xa SS iA tA wc SXa hpA
      have HPB := Lib.hid hpB
      have HNE := Lib.hid hne
      clear hSS SXa SXb hpA hpB hsA hsB hne HP
      go_wp2_with fail
      refine CA.out.mono ?_
      rintro x w3 ⟨rfl, hpa3, hg3⟩
      have PA3 := Lib.hid hpa3
      have G3 := Lib.hid hg3
      have hz3 := hg3.size
      have B3 := Lib.hid (belowG HB.out HB.out.size hg3 (fun k e => by cases e; exact hXa))
      have PB3 := Lib.hid (HPB.out.kept hg3 (fun e => HNE.out (by cases e; rfl)) (fun g e => by cases e; exact .inl HSA.out))
      clear hpa3 hg3 CA
      go_wp2_with fail
      have CB : Hid (Calls Tryd.prog 126 #[.pointer (some ⟨Xb, 0, none⟩)] (w3.alloc (.cells #[.int .i64 iA.low, .int .i64 iA.high, .string iA.target, .int .i64 iA.weight] 35)) fun x w' => x = .returned (.tuple #[.agg #[.int .i64 iB.low, .int .i64 iB.high, .string iB.target, .int .i64 iB.weight], .bool true]) ∧ PullAt w' Xb SS tB ∧ (w3.alloc (.cells #[.int .i64 iA.low, .int .i64 iA.high, .string iA.target, .int .i64 iA.weight] 35)).grownBy w' (some Xb)) :=
        pull_some Xb SS iB tB _ HSB.out (PB3.out.kept (World.grownBy_alloc w3 _ none) (by simp) (fun g e => nomatch e))
      refine CB.out.mono ?_
      rintro x w5 ⟨rfl, hpb5, hg5⟩
      have PB5 := Lib.hid hpb5
      have hz5 := hg5.size
      simp only [World.size_alloc] at hz5
      have B5 := Lib.hid (belowG (B3.out.alloc B3.out.size _) (B3.out.alloc B3.out.size (.cells #[.int .i64 iA.low, .int .i64 iA.high, .string iA.target, .int .i64 iA.weight] 35)).size hg5 (fun k e => by cases e; exact hXb))
      have PA5 := Lib.hid ((PA3.out.kept (World.grownBy_alloc w3 (.cells #[.int .i64 iA.low, .int .i64 iA.high, .string iA.target, .int .i64 iA.weight] 35) none) (by simp) (fun g e => nomatch e)).kept hg5 (fun e => HNE.out (by cases e; rfl)) (fun g e => by cases e; exact .inl HSB.out))
      have BA5 := Lib.hid ((Box4.new w3 iA).kept hg5 (by simp; omega))
      clear hpb5 hg5 CB
      go_wp2_with fail
      obtain ⟨w6, hw6⟩ : ∃ w6, w6 = w5.alloc (.cells #[.int .i64 iB.low, .int .i64 iB.high, .string iB.target, .int .i64 iB.weight] 35) := ⟨_, rfl⟩
      have ST0 := Lib.hid (show OthAt w6 w w.heap.size w3.heap.size w5.heap.size Xa Xb SS iA iB tA tB from by
        rw [hw6]
        exact ⟨BA5.out.kept (World.grownBy_alloc w5 _ none) (by simp), Box4.new w5 iB, PA5.out.kept (World.grownBy_alloc w5 _ none) (by simp) (fun g e => nomatch e), PB5.out.kept (World.grownBy_alloc w5 _ none) (by simp) (fun g e => nomatch e), B5.out.alloc B5.out.size _⟩)
      rw [← hw6]
      have hz6 : w6.heap.size = w5.heap.size + 1 := by rw [hw6]; simp
      clear hw6
      obtain ⟨b7, hb7⟩ : ∃ b7, b7 = w3.heap.size := ⟨_, rfl⟩
      obtain ⟨b9, hb9⟩ : ∃ b9, b9 = w5.heap.size := ⟨_, rfl⟩
      rw [← hb7, ← hb9] at ST0 ⊢
      have HD := Lib.hid (show b7 ≠ b9 ∧ b7 ≠ Xa ∧ b7 ≠ Xb ∧ b9 ≠ Xa ∧ b9 ≠ Xb ∧ wc.heap.size ≤ b7 ∧ wc.heap.size ≤ b9 by omega)
      clear hb7 hb9 PA3 PB3 PA5 PB5 BA5 HPB hz6 G3
      go_loopg [8] 40 (fun gk m wr => ∃ (mb : Bool) (x y : CaseD) (t u : List CaseD), m = .bool mb ∧ Hid (OthAt wr w w.heap.size b7 b9 Xa Xb SS x y t u) ∧ Hid (mb = true → Run da db x y t u) ∧ Hid (mb = false → firstB (diffB da db) 32 = -1) ∧ t.length + u.length + (if mb then 1 else 0) ≤ gk)
      case atStart => exact ⟨true, iA, iB, tA, tB, rfl, ST0.out, fun _ => RUN.out, (fun h => by cases h), by simp; omega⟩
      case round =>
        obtain ⟨mb, x, y, t, u, rfl, ST, HT, HF, hlen⟩ := hrel
        cases mb with
        | false =>
          have HFF := Lib.hid (HF.out rfl)
          clear HT HF
          go_wp2
          go_ret
          exact ⟨retI (by rw [otherN, if_pos ⟨SA.out, SB.out⟩, HFF.out]), ST.out.below⟩
        | true =>
          have RN := Lib.hid (HT.out rfl)
          clear HT HF
          have hlen' : t.length + u.length + 1 ≤ gk := by simpa using hlen
          clear hlen
          obtain ⟨x0, x1, x2, x3⟩ := ST.out.bx.cells
          obtain ⟨y0, y1, y2, y3⟩ := ST.out.bY.cells
          have bx := RN.out.a.bounds
          have bY := RN.out.b.bounds
          obtain ⟨bx0, bx1, bx2⟩ := bx
          obtain ⟨by0, by1, by2⟩ := bY
          cases hq : (x.target.toList == y.target.toList) with
          | false =>
            have HQ := Lib.hid (show sameB x.target y.target = false from hq)
            go_wp2_with fail
            go_ret
            exact ⟨retI (by rw [otherN, if_pos ⟨SA.out, SB.out⟩, run_diff RN.out HQ.out]; rfl), ST.out.below⟩
          | true =>
            have HQ := Lib.hid (show sameB x.target y.target = true from hq)
            have n79 : ¬ b7 = b9 := HD.out.1
            have n97 : ¬ b9 = b7 := Ne.symm HD.out.1
            rcases Int.lt_trichotomy x.high y.high with hlt | heq | hgt
            · obtain ⟨a, t1, rfl⟩ := RN.out.a.more (by omega)
              have hmin : min x.high y.high = x.high := Int.min_eq_left (by omega)
              have hne1 : (y.high == x.high) = false := by simp; omega
              have CA : Hid (Calls Tryd.prog 126 #[.pointer (some ⟨Xa, 0, none⟩)] (wr) fun x w' => x = .returned (.tuple #[.agg #[.int .i64 a.low, .int .i64 a.high, .string a.target, .int .i64 a.weight], .bool true]) ∧ PullAt w' Xa SS t1 ∧ (wr).grownBy w' (some Xa)) := pull_some Xa SS a t1 _ HSA.out ST.out.pa
              go_wp2_with fail
              refine CA.out.mono ?_
              rintro e w7 ⟨rfl, hp, hg⟩
              have bx1 := ST.out.bx.kept hg (by simp; exact HD.out.2.1)
              have bY1 := ST.out.bY.kept hg (by simp; exact HD.out.2.2.2.1)
              have pb1 := ST.out.pb.kept hg (fun e => HNE.out (by cases e; rfl)) (fun g e => by cases e; exact .inl HSA.out)
              have hww := hg.size
              obtain ⟨z0, z1, z2, z3⟩ := bx1.cells
              obtain ⟨v0, v1, v2, v3⟩ := bY1.cells
              have f0 := bx1.frozen 0
              have f1 := bx1.frozen 1
              have f2 := bx1.frozen 2
              have f3 := bx1.frozen 3
              have hgs := grown_store4 w7 b7 a
              have h7s : SS b7 := SN.out b7 HD.out.2.2.2.2.2.1
              have S7 := Lib.hid (show OthAt (store4 w7 b7 a) w w.heap.size b7 b9 Xa Xb SS a y t1 u from ⟨bx1.store a, bY1.kept hgs (by simp; exact Ne.symm HD.out.1), hp.kept hgs (by simp; exact Ne.symm HD.out.2.1) (fun g e => by cases e; exact .inl h7s), pb1.kept hgs (by simp; exact Ne.symm HD.out.2.2.1) (fun g e => by cases e; exact .inl h7s), belowG (belowG ST.out.below ST.out.below.size hg (fun k e => by cases e; exact hXa)) (Nat.le_trans ST.out.below.size hww) hgs (fun k e => by cases e; have := HD.out.2.2.2.2.2.1; have := HB.out.size; omega)⟩)
              clear bx1 bY1 pb1 hp hg hgs h7s hww
              clear x0 x1 x2 x3 y0 y1 y2 y3
              go_wp2_with fail
              go_roundg (gk - 1)
              case measure => omega
              case rel => exact ⟨true, a, y, t1, u, rfl, S7.out, fun _ => run_a RN.out HQ.out hlt, (fun h => by cases h), by simp at hlen' ⊢; omega⟩
            · have hmin : min x.high y.high = x.high := Int.min_eq_left (by omega)
              have hne1 : (y.high == x.high) = true := by simp; omega
              by_cases h31 : x.high = 31
              · have HDN := Lib.hid (run_done RN.out HQ.out h31 (by omega))
                have ht0 := RN.out.a.done h31
                have hu0 := RN.out.b.done (by omega)
                subst ht0
                subst hu0
                clear h31
                have CA : Hid (Calls Tryd.prog 126 #[.pointer (some ⟨Xa, 0, none⟩)] (wr) fun x w' => x = .returned (.tuple #[.agg #[.int .i64 0, .int .i64 0, .string ⟨#[]⟩, .int .i64 0], .bool false]) ∧ PullAt w' Xa SS [] ∧ (wr).grownBy w' (some Xa)) := pull_none Xa SS _ ST.out.pa
                go_wp2_with fail
                refine CA.out.mono ?_
                rintro e w7 ⟨rfl, hp, hg⟩
                have bx1 := ST.out.bx.kept hg (by simp; exact HD.out.2.1)
                have bY1 := ST.out.bY.kept hg (by simp; exact HD.out.2.2.2.1)
                have pb1 := ST.out.pb.kept hg (fun e => HNE.out (by cases e; rfl)) (fun g e => by cases e; exact .inl HSA.out)
                have hww := hg.size
                obtain ⟨z0, z1, z2, z3⟩ := bx1.cells
                obtain ⟨v0, v1, v2, v3⟩ := bY1.cells
                have f0 := bx1.frozen 0
                have f1 := bx1.frozen 1
                have f2 := bx1.frozen 2
                have f3 := bx1.frozen 3
                have hgs := grown_store4 w7 b7 zeroD
                have h7s : SS b7 := SN.out b7 HD.out.2.2.2.2.2.1
                have S7 := Lib.hid (show OthAt (store4 w7 b7 zeroD) w w.heap.size b7 b9 Xa Xb SS zeroD y [] [] from ⟨bx1.store zeroD, bY1.kept hgs (by simp; exact Ne.symm HD.out.1), hp.kept hgs (by simp; exact Ne.symm HD.out.2.1) (fun g e => by cases e; exact .inl h7s), pb1.kept hgs (by simp; exact Ne.symm HD.out.2.2.1) (fun g e => by cases e; exact .inl h7s), belowG (belowG ST.out.below ST.out.below.size hg (fun k e => by cases e; exact hXa)) (Nat.le_trans ST.out.below.size hww) hgs (fun k e => by cases e; have := HD.out.2.2.2.2.2.1; have := HB.out.size; omega)⟩)
                clear bx1 bY1 pb1 hp hg hgs h7s hww
                clear x0 x1 x2 x3 y0 y1 y2 y3 CA
                have CB : Hid (Calls Tryd.prog 126 #[.pointer (some ⟨Xb, 0, none⟩)] (((((w7.setCell ⟨b7, 0, none⟩ (.int .i64 0)).setCell ⟨b7, 1, none⟩ (.int .i64 0)).setCell ⟨b7, 2, none⟩ (.string ⟨#[]⟩)).setCell ⟨b7, 3, none⟩ (.int .i64 0))) fun x w' => x = .returned (.tuple #[.agg #[.int .i64 0, .int .i64 0, .string ⟨#[]⟩, .int .i64 0], .bool false]) ∧ PullAt w' Xb SS [] ∧ (((((w7.setCell ⟨b7, 0, none⟩ (.int .i64 0)).setCell ⟨b7, 1, none⟩ (.int .i64 0)).setCell ⟨b7, 2, none⟩ (.string ⟨#[]⟩)).setCell ⟨b7, 3, none⟩ (.int .i64 0))).grownBy w' (some Xb)) := pull_none Xb SS _ S7.out.pb
                go_wp2_with fail
                refine CB.out.mono ?_
                clear z0 z1 z2 z3 v0 v1 v2 v3 f0 f1 f2 f3
                rintro e w8 ⟨rfl, hp, hg⟩
                have bx1 := S7.out.bx.kept hg (by simp; exact HD.out.2.2.1)
                have bY1 := S7.out.bY.kept hg (by simp; exact HD.out.2.2.2.2.1)
                have pa1 := S7.out.pa.kept hg (fun e => HNE.out (by cases e; rfl)) (fun g e => by cases e; exact .inl HSB.out)
                have hww := hg.size
                obtain ⟨z0, z1, z2, z3⟩ := bx1.cells
                obtain ⟨v0, v1, v2, v3⟩ := bY1.cells
                have f0 := bY1.frozen 0
                have f1 := bY1.frozen 1
                have f2 := bY1.frozen 2
                have f3 := bY1.frozen 3
                have hgs := grown_store4 w8 b9 zeroD
                have h9s : SS b9 := SN.out b9 HD.out.2.2.2.2.2.2
                have S8 := Lib.hid (show OthAt (store4 w8 b9 zeroD) w w.heap.size b7 b9 Xa Xb SS zeroD zeroD [] [] from ⟨bx1.kept hgs (by simp; exact HD.out.1), bY1.store zeroD, pa1.kept hgs (by simp; exact Ne.symm HD.out.2.2.2.1) (fun g e => by cases e; exact .inl h9s), hp.kept hgs (by simp; exact Ne.symm HD.out.2.2.2.2.1) (fun g e => by cases e; exact .inl h9s), belowG (belowG S7.out.below S7.out.below.size hg (fun k e => by cases e; exact hXb)) (Nat.le_trans S7.out.below.size hww) hgs (fun k e => by cases e; have := HD.out.2.2.2.2.2.2; have := HB.out.size; omega)⟩)
                clear bx1 bY1 pa1 hp hg hgs h9s hww
                go_wp2_with fail
                go_roundg (gk - 1)
                case measure => omega
                case rel => exact ⟨false, zeroD, zeroD, [], [], rfl, S8.out, (fun h => by cases h), fun _ => HDN.out, by simp at hlen' ⊢⟩
              · obtain ⟨a, t1, rfl⟩ := RN.out.a.more (by omega)
                obtain ⟨c, u1, rfl⟩ := RN.out.b.more (by omega)
                have HRN := Lib.hid (run_ab RN.out HQ.out heq)
                clear h31
                have CA : Hid (Calls Tryd.prog 126 #[.pointer (some ⟨Xa, 0, none⟩)] (wr) fun x w' => x = .returned (.tuple #[.agg #[.int .i64 a.low, .int .i64 a.high, .string a.target, .int .i64 a.weight], .bool true]) ∧ PullAt w' Xa SS t1 ∧ (wr).grownBy w' (some Xa)) := pull_some Xa SS a t1 _ HSA.out ST.out.pa
                go_wp2_with fail
                refine CA.out.mono ?_
                rintro e w7 ⟨rfl, hp, hg⟩
                have bx1 := ST.out.bx.kept hg (by simp; exact HD.out.2.1)
                have bY1 := ST.out.bY.kept hg (by simp; exact HD.out.2.2.2.1)
                have pb1 := ST.out.pb.kept hg (fun e => HNE.out (by cases e; rfl)) (fun g e => by cases e; exact .inl HSA.out)
                have hww := hg.size
                obtain ⟨z0, z1, z2, z3⟩ := bx1.cells
                obtain ⟨v0, v1, v2, v3⟩ := bY1.cells
                have f0 := bx1.frozen 0
                have f1 := bx1.frozen 1
                have f2 := bx1.frozen 2
                have f3 := bx1.frozen 3
                have hgs := grown_store4 w7 b7 a
                have h7s : SS b7 := SN.out b7 HD.out.2.2.2.2.2.1
                have S7 := Lib.hid (show OthAt (store4 w7 b7 a) w w.heap.size b7 b9 Xa Xb SS a y t1 (c :: u1) from ⟨bx1.store a, bY1.kept hgs (by simp; exact Ne.symm HD.out.1), hp.kept hgs (by simp; exact Ne.symm HD.out.2.1) (fun g e => by cases e; exact .inl h7s), pb1.kept hgs (by simp; exact Ne.symm HD.out.2.2.1) (fun g e => by cases e; exact .inl h7s), belowG (belowG ST.out.below ST.out.below.size hg (fun k e => by cases e; exact hXa)) (Nat.le_trans ST.out.below.size hww) hgs (fun k e => by cases e; have := HD.out.2.2.2.2.2.1; have := HB.out.size; omega)⟩)
                clear bx1 bY1 pb1 hp hg hgs h7s hww
                clear x0 x1 x2 x3 y0 y1 y2 y3 CA
                have CB : Hid (Calls Tryd.prog 126 #[.pointer (some ⟨Xb, 0, none⟩)] (((((w7.setCell ⟨b7, 0, none⟩ (.int .i64 a.low)).setCell ⟨b7, 1, none⟩ (.int .i64 a.high)).setCell ⟨b7, 2, none⟩ (.string a.target)).setCell ⟨b7, 3, none⟩ (.int .i64 a.weight))) fun x w' => x = .returned (.tuple #[.agg #[.int .i64 c.low, .int .i64 c.high, .string c.target, .int .i64 c.weight], .bool true]) ∧ PullAt w' Xb SS u1 ∧ (((((w7.setCell ⟨b7, 0, none⟩ (.int .i64 a.low)).setCell ⟨b7, 1, none⟩ (.int .i64 a.high)).setCell ⟨b7, 2, none⟩ (.string a.target)).setCell ⟨b7, 3, none⟩ (.int .i64 a.weight))).grownBy w' (some Xb)) := pull_some Xb SS c u1 _ HSB.out S7.out.pb
                go_wp2_with fail
                refine CB.out.mono ?_
                clear z0 z1 z2 z3 v0 v1 v2 v3 f0 f1 f2 f3
                rintro e w8 ⟨rfl, hp, hg⟩
                have bx1 := S7.out.bx.kept hg (by simp; exact HD.out.2.2.1)
                have bY1 := S7.out.bY.kept hg (by simp; exact HD.out.2.2.2.2.1)
                have pa1 := S7.out.pa.kept hg (fun e => HNE.out (by cases e; rfl)) (fun g e => by cases e; exact .inl HSB.out)
                have hww := hg.size
                obtain ⟨z0, z1, z2, z3⟩ := bx1.cells
                obtain ⟨v0, v1, v2, v3⟩ := bY1.cells
                have f0 := bY1.frozen 0
                have f1 := bY1.frozen 1
                have f2 := bY1.frozen 2
                have f3 := bY1.frozen 3
                have hgs := grown_store4 w8 b9 c
                have h9s : SS b9 := SN.out b9 HD.out.2.2.2.2.2.2
                have S8 := Lib.hid (show OthAt (store4 w8 b9 c) w w.heap.size b7 b9 Xa Xb SS a c t1 u1 from ⟨bx1.kept hgs (by simp; exact HD.out.1), bY1.store c, pa1.kept hgs (by simp; exact Ne.symm HD.out.2.2.2.1) (fun g e => by cases e; exact .inl h9s), hp.kept hgs (by simp; exact Ne.symm HD.out.2.2.2.2.1) (fun g e => by cases e; exact .inl h9s), belowG (belowG S7.out.below S7.out.below.size hg (fun k e => by cases e; exact hXb)) (Nat.le_trans S7.out.below.size hww) hgs (fun k e => by cases e; have := HD.out.2.2.2.2.2.2; have := HB.out.size; omega)⟩)
                clear bx1 bY1 pa1 hp hg hgs h9s hww
                go_wp2_with fail
                go_roundg (gk - 1)
                case measure => omega
                case rel => exact ⟨true, a, c, t1, u1, rfl, S8.out, fun _ => HRN.out, (fun h => by cases h), by simp at hlen' ⊢; omega⟩
            · obtain ⟨c, u1, rfl⟩ := RN.out.b.more (by omega)
              have hmin : min x.high y.high = y.high := Int.min_eq_right (by omega)
              have hne1 : (x.high == y.high) = false := by simp; omega
              have CB : Hid (Calls Tryd.prog 126 #[.pointer (some ⟨Xb, 0, none⟩)] (wr) fun x w' => x = .returned (.tuple #[.agg #[.int .i64 c.low, .int .i64 c.high, .string c.target, .int .i64 c.weight], .bool true]) ∧ PullAt w' Xb SS u1 ∧ (wr).grownBy w' (some Xb)) := pull_some Xb SS c u1 _ HSB.out ST.out.pb
              go_wp2_with fail
              refine CB.out.mono ?_
              rintro e w8 ⟨rfl, hp, hg⟩
              have bx1 := ST.out.bx.kept hg (by simp; exact HD.out.2.2.1)
              have bY1 := ST.out.bY.kept hg (by simp; exact HD.out.2.2.2.2.1)
              have pa1 := ST.out.pa.kept hg (fun e => HNE.out (by cases e; rfl)) (fun g e => by cases e; exact .inl HSB.out)
              have hww := hg.size
              obtain ⟨z0, z1, z2, z3⟩ := bx1.cells
              obtain ⟨v0, v1, v2, v3⟩ := bY1.cells
              have f0 := bY1.frozen 0
              have f1 := bY1.frozen 1
              have f2 := bY1.frozen 2
              have f3 := bY1.frozen 3
              have hgs := grown_store4 w8 b9 c
              have h9s : SS b9 := SN.out b9 HD.out.2.2.2.2.2.2
              have S8 := Lib.hid (show OthAt (store4 w8 b9 c) w w.heap.size b7 b9 Xa Xb SS x c t u1 from ⟨bx1.kept hgs (by simp; exact HD.out.1), bY1.store c, pa1.kept hgs (by simp; exact Ne.symm HD.out.2.2.2.1) (fun g e => by cases e; exact .inl h9s), hp.kept hgs (by simp; exact Ne.symm HD.out.2.2.2.2.1) (fun g e => by cases e; exact .inl h9s), belowG (belowG ST.out.below ST.out.below.size hg (fun k e => by cases e; exact hXb)) (Nat.le_trans ST.out.below.size hww) hgs (fun k e => by cases e; have := HD.out.2.2.2.2.2.2; have := HB.out.size; omega)⟩)
              clear bx1 bY1 pa1 hp hg hgs h9s hww
              clear x0 x1 x2 x3 y0 y1 y2 y3
              go_wp2_with fail
              go_roundg (gk - 1)
              case measure => omega
              case rel => exact ⟨true, x, c, t, u1, rfl, S8.out, fun _ => run_b RN.out HQ.out hgt, (fun h => by cases h), by simp at hlen' ⊢; omega⟩
end Go.Proofs.YtlcekocbaffnnaaDoor
