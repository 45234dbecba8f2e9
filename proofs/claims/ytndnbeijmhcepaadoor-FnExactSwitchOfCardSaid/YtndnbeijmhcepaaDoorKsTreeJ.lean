
/- Reading a tree, the model: the walk of a comparison. -/
import Derived.Test.YtndnbeijmhcepaaDoorKsSpecRd
import Derived.Test.YtndnbeijmhcepaaDoorKsStep
import Derived.Shelf.Abstract
import Derived.Lib.AppendStr
import Derived.Deep.DeepCutAuto
namespace Go.Proofs.YtndnbeijmhcepaaDoor
open Go.RowKit Go.Lib Go.Shelf

/-- How much the reader in block R has read. -/
def mAt (R : Nat) (w : World) : Nat := match w.cell? ⟨R, 1, none⟩ with | some (.int _ n) => n.toNat | _ => 0
theorem mAt_rd {w : World} {R p : Nat} {s : ByteArray} {b : Bool} (h : RdS w R s p b) : mAt R w = p := by simp [mAt, h.c1]
theorem infoNd : (Tryd.prog.info? 59).map (fun i => (i.zero, i.size, i.bytes)) = some (some (.agg #[.string ⟨#[]⟩, .int .i64 0, .slice none 0 0]), 3, 48) := by kernel_rfl
theorem infoNd_parts : ∃ i, Tryd.prog.info? 59 = some i ∧ i.zero = some (.agg #[.string ⟨#[]⟩, .int .i64 0, .slice none 0 0]) ∧ i.size = 3 ∧ i.bytes = 48 := by
  have h := infoNd
  cases hi : Tryd.prog.info? 59 with
  | none => rw [hi] at h; cases h
  | some i =>
    rw [hi] at h
    simp only [Option.map_some, Option.some.injEq, Prod.mk.injEq] at h
    exact ⟨i, rfl, h.1, h.2.1, h.2.2⟩
theorem own_of_box {w : World} {base B : Nat} {t : TypeId} {v0 v1 v2 : Value} (h : Box3 w B t v0 v1 v2) (hb : base ≤ B) : w.ownsRow base t 3 (.slice (some ⟨B, 0, none⟩) 1 1) 1 [v0, v1, v2] :=
  ⟨rfl, .inr ⟨B, 1, #[v0, v1, v2], rfl, hb, h, Nat.le_refl _, by unfold maxLen; omega, rfl, rfl⟩⟩
theorem cells3 {w : World} {B : Nat} {t : TypeId} {v0 v1 v2 : Value} (h : Box3 w B t v0 v1 v2) : ∀ j u, [v0, v1, v2][j]? = some u → w.cell? ((⟨B, 0, none⟩ : Addr).add j) = some u := by
  intro j u hj
  match j, hj with
  | 0, hj => simp at hj; subst hj; exact h.c0
  | 1, hj => simp at hj; subst hj; exact h.c1
  | 2, hj => simp at hj; subst hj; exact h.c2
theorem one3 (a : ByteArray) (b : Int) (x : Option Addr) (n c : Nat) : ∀ u ∈ [Value.string a, .int .i64 b, .slice x n c], u.oneCell' = true := by
  intro u hu
  simp at hu
  rcases hu with rfl | rfl | rfl <;> rfl
/-- What the second side's reading leaves: both nodes lie in one row, which the tree's box points to. -/
def PairAt (R : Nat) (s : ByteArray) (f p4 : Nat) (b4 : Bool) (X : Nat) (nv : Int) (t1 : TreeD) (wa : World) (wx : World) : Prop :=
  ∃ (t2 : TreeD) (tl tr : ByteArray) (kl kr : Int) (sl sr : Value) (p5 : Nat) (b5 : Bool) (g cap : Nat), RdS wx R s p5 b5 ∧ p4 ≤ p5 ∧ p5 ≤ s.size ∧ b5 = (b4 || (rdG nmL f (rest s p4)).isNone) ∧ (b5 = false → rdG nmL f (rest s p4) = some (t2, rest s p5)) ∧
    Box3 wx X 59 (.string ⟨#[]⟩) (.int .i64 nv) (.slice (some ⟨g, 0, none⟩) 2 cap) ∧ NodeIs wa.heap.size wx t1 tl kl sl ∧ NodeIs wa.heap.size wx t2 tr kr sr ∧ wa.heap.size ≤ g ∧ g < wx.heap.size ∧
    (wx.cell? ⟨g, 0, none⟩ = some (.string tl) ∧ wx.cell? ⟨g, 1, none⟩ = some (.int .i64 kl) ∧ wx.cell? ⟨g, 2, none⟩ = some sl ∧ wx.cell? ⟨g, 3, none⟩ = some (.string tr) ∧ wx.cell? ⟨g, 4, none⟩ = some (.int .i64 kr) ∧ wx.cell? ⟨g, 5, none⟩ = some sr) ∧ wa.grownBy wx (some R)
theorem grown_far {a W W' : World} {row : Option Nat} {q : Nat} (h : a.grownBy W row) (h2 : W.grownBy W' (some q)) (hq : a.heap.size ≤ q) : a.grownBy W' row :=
  ⟨h2.os.trans h.os, h2.tape.trans h.tape, h2.output.trans h.output, Nat.le_trans h.size h2.size, fun k hk hne => (h2.block k (Nat.lt_of_lt_of_le hk h.size) (by simp; omega)).trans (h.block k hk hne)⟩
theorem pair_made (w0 wa wc w2 w4 w5 w6 : World) (R : Nat) (s : ByteArray) (f p4 p5 : Nat) (b4 b5 : Bool) (nv : Int) (t1 t2 : TreeD) (tg1 tg2 : ByteArray) (kk1 kk2 : Int) (a1 a2 : Option Addr) (len1 cap1 len2 cap2 g6 cap6 : Nat)
    (hRl : R < w0.heap.size) (hza : wa.heap.size = w0.heap.size + 1) (hwz : wa.heap.size ≤ wc.heap.size) (hw2 : wc.heap.size ≤ w2.heap.size) (z44 : w2.heap.size + 2 ≤ w4.heap.size) (z55 : w4.heap.size ≤ w5.heap.size)
    (HND : NodeIs wc.heap.size w2 t1 tg1 kk1 (.slice a1 len1 cap1)) (HB24 : ∀ k, wc.heap.size ≤ k → k < w2.heap.size → w4.heap[k]? = w2.heap[k]?) (HG4 : wa.grownBy w4 (some R))
    (G45 : w4.grownBy w5 (some R)) (HND2 : NodeIs w4.heap.size w5 t2 tg2 kk2 (.slice a2 len2 cap2)) (HR5 : RdS w5 R s p5 b5) (hq5 : p4 ≤ p5) (hq6 : p5 ≤ s.size) (HD5 : b5 = (b4 || (rdG nmL f (rest s p4)).isNone)) (HE5 : b5 = false → rdG nmL f (rest s p4) = some (t2, rest s p5))
    (G56 : (w5.alloc (.cells #[.string tg2, .int .i64 kk2, .slice a2 len2 cap2] 59)).grownBy w6 (some w2.heap.size))
    (HOW : w6.ownsRow w0.heap.size 59 3 (.slice (some ⟨g6, 0, none⟩) (1 + 1) cap6) (1 + 1) ([.string tg1, .int .i64 kk1, .slice a1 len1 cap1] ++ [.string tg2, .int .i64 kk2, .slice a2 len2 cap2])) (HAT : g6 = w2.heap.size ∨ g6 = w5.heap.size + 1)
    (HO6 : Box3 w6 (w2.heap.size + 1) 59 (.string ⟨#[]⟩) (.int .i64 nv) (.slice (some ⟨w2.heap.size, 0, none⟩) 1 1)) :
    PairAt R s f p4 b4 (w2.heap.size + 1) nv t1 wa (w6.setCell ⟨w2.heap.size + 1, 2, none⟩ (.slice (some ⟨g6, 0, none⟩) 2 cap6)) := by
  have hne : g6 ≠ w2.heap.size + 1 := by omega
  have hlt := (World.ownsRow.lt HOW g6 rfl)
  have GS := grown_setCell w6 (w2.heap.size + 1) 2 (.slice (some ⟨g6, 0, none⟩) 2 cap6)
  have za : (w5.alloc (.cells #[.string tg2, .int .i64 kk2, .slice a2 len2 cap2] 59)).heap.size = w5.heap.size + 1 := by simp
  have z6 := G56.size
  have z7 := GS.size
  have hc : ∀ j, j < 6 → (w6.setCell ⟨w2.heap.size + 1, 2, none⟩ (.slice (some ⟨g6, 0, none⟩) 2 cap6)).cell? ⟨g6, j, none⟩ = ([.string tg1, .int .i64 kk1, .slice a1 len1 cap1] ++ [.string tg2, .int .i64 kk2, .slice a2 len2 cap2] : List Value)[j]? := fun j hj => by
    rw [World.cell?_of_block (a := ⟨g6, j, none⟩) (GS.block g6 hlt.2 (by simp; exact hne))]
    exact HOW.cellAt j (by omega)
  refine ⟨t2, tg1, tg2, kk1, kk2, _, _, p5, b5, g6, cap6, ((HR5.alloc _).kept G56 (by simp; omega)).setOther (by omega) _ _, hq5, hq6, HD5, HE5, HO6.set2 _, ?_, ?_, by omega, by omega, ⟨hc 0 (by omega), hc 1 (by omega), hc 2 (by omega), hc 3 (by omega), hc 4 (by omega), hc 5 (by omega)⟩, ?_⟩
  · refine (HND.keptLt (by omega) (fun k h0 hk => ?_)).base (by omega)
    rw [GS.block k (by omega) (by simp; omega), G56.block k (by omega) (by simp; omega), (World.grownBy_alloc w5 _ none).block k (by omega) (by simp), G45.block k (by omega) (by simp; omega)]
    exact HB24 k h0 hk
  · exact (((HND2.kept (World.grownBy_alloc w5 _ none) (fun q e => by cases e)).kept G56 (fun q e => by cases e; omega)).kept GS (fun q e => by cases e; omega)).base (by omega)
  · exact grown_far (grown_far ((HG4.trans G45).trans (World.grownBy_alloc w5 _ _)) G56 (by omega)) GS (by omega)

theorem node_made (w wa w6 : World) (R : Nat) (s : ByteArray) (p p6 g cap : Nat) (b6 : Bool) (nv : Int) (t1 t2 : TreeD) (tl tr : ByteArray) (kl kr : Int) (sl sr : Value) (o : Option (TreeD × List UInt8))
    (hRl : R < w.heap.size) (hwa : wa = w.alloc (.cells #[.string ⟨#[]⟩, .int .i64 0, .slice none 0 0] 59)) (HR6 : RdS w6 R s p6 b6) (hle : p ≤ p6) (hle2 : p6 ≤ s.size) (HG6 : wa.grownBy w6 (some R)) (hg0 : wa.heap.size ≤ g) (hg1 : g < w6.heap.size)
    (HC6 : w6.cell? ⟨g, 0, none⟩ = some (.string tl) ∧ w6.cell? ⟨g, 1, none⟩ = some (.int .i64 kl) ∧ w6.cell? ⟨g, 2, none⟩ = some sl ∧ w6.cell? ⟨g, 3, none⟩ = some (.string tr) ∧ w6.cell? ⟨g, 4, none⟩ = some (.int .i64 kr) ∧ w6.cell? ⟨g, 5, none⟩ = some sr)
    (HM1 : NodeIs wa.heap.size w6 t1 tl kl sl) (HM2 : NodeIs wa.heap.size w6 t2 tr kr sr) (hsum : b6 = (false || o.isNone) ∧ (b6 = false → o = some (.cmp nv t1 t2, rest s p6))) :
    NodeOut R s p false o w (.returned (.agg #[.string ⟨#[]⟩, .int .i64 nv, .slice (some ⟨g, 0, none⟩) 2 cap])) (((w6.setCell ⟨w.heap.size, 0, none⟩ (.string ⟨#[]⟩)).setCell ⟨w.heap.size, 1, none⟩ (.int .i64 nv)).setCell ⟨w.heap.size, 2, none⟩ (.slice (some ⟨g, 0, none⟩) 2 cap)) := by
  have hza : wa.heap.size = w.heap.size + 1 := by rw [hwa]; simp
  have ga : w.grownBy wa (some R) := by rw [hwa]; exact World.grownBy_alloc _ _ _
  have G0 := grown_setCell w6 w.heap.size 0 (.string ⟨#[]⟩)
  have G1 := grown_setCell (w6.setCell ⟨w.heap.size, 0, none⟩ (.string ⟨#[]⟩)) w.heap.size 1 (.int .i64 nv)
  have G2 := grown_setCell ((w6.setCell ⟨w.heap.size, 0, none⟩ (.string ⟨#[]⟩)).setCell ⟨w.heap.size, 1, none⟩ (.int .i64 nv)) w.heap.size 2 (.slice (some ⟨g, 0, none⟩) 2 cap)
  have G := (G0.trans G1).trans G2
  have hgX : some g ≠ some w.heap.size := by simp; omega
  obtain ⟨y0, y1, y2, y3, y4, y5⟩ := HC6
  refine ⟨⟨.cmp nv t1 t2, _, _, _, p6, b6, rfl, ⟨rfl, g, cap, tl, kl, sl, tr, kr, sr, rfl, by omega, Nat.lt_of_lt_of_le hg1 G.size, ⟨G.cell y0 hgX, G.cell y1 hgX, G.cell y2 hgX, G.cell y3 hgX, G.cell y4 hgX, G.cell y5 hgX⟩, (HM1.kept G (fun q e => by cases e; omega)).base (by omega), (HM2.kept G (fun q e => by cases e; omega)).base (by omega)⟩, HR6.kept G (by simp; omega), hle, hle2, hsum.1, hsum.2⟩, ?_⟩
  exact grown_far (ga.trans HG6) G (Nat.le_refl _)
theorem ok_num {d : List UInt8} : (plainL d && inB (numV d) 1 31) = okD d ∧ (okD d = true → numV d = ((valL d : Nat) : Int)) := by
  cases h : plainL d with
  | false => simp [okD, h]
  | true =>
    have e : numV d = ((valL d : Nat) : Int) := by rw [numV, if_pos h]
    refine ⟨?_, fun _ => e⟩
    rw [e, okD, h, Bool.eq_iff_iff]
    simp [inB]
    omega

set_option maxRecDepth 100000 in
set_option maxHeartbeats 1000000 in
theorem node_cmp (f : Nat) (ih : NodeC f) (R : Nat) (s : ByteArray) (p : Nat) (w : World) (hR : RdS w R s p false) (hp : p < s.size) (hs : s.size ≤ 2000000) (hf : s.size - p < f + 1) (ht : tgU s[p] = false) :
    Calls Tryd.prog 62 #[.pointer (some ⟨R, 0, none⟩)] w (NodeOut R s p false (rdG nmL (f + 1) (rest s p)) w) := by
  obtain ⟨wa, hwa⟩ : ∃ wa, wa = w.alloc (.cells #[.string ⟨#[]⟩, .int .i64 0, .slice none 0 0] 59) := ⟨_, rfl⟩
  have hRa : RdS wa R s p false := by rw [hwa]; exact hR.kept (World.grownBy_alloc _ _ none) (by simp)
  have c0 := hRa.c0
  have c1 := hRa.c1
  have c2 := hRa.c2
  have hX : Box3 wa w.heap.size 59 (.string ⟨#[]⟩) (.int .i64 0) (.slice none 0 0) := by rw [hwa]; exact Box3.new _ _ _ _ _
  have HX := Lib.hid hX
  clear hX
  have hza : wa.heap.size = w.heap.size + 1 := by rw [hwa]; simp
  have hRl := hR.lt
  have hRz : ¬ R = w.heap.size := by omega
  have HR := Lib.hid hRa
  have HWA := Lib.hid hwa
  have HIH := Lib.hid ih
  have hpi : (p : Int) < (s.size : Int) := by omega
  have hti : inB (s[p].toNat : Int) 97 104 = false ∧ ((s[p].toNat : Int) == 122) = false := by
    simp only [tgU, Bool.or_eq_false_iff, Bool.and_eq_false_iff, decide_eq_false_iff_not] at ht
    refine ⟨?_, ?_⟩
    · simp [inB]; omega
    · exact beq_eq_false_iff_ne.2 (by omega)
  obtain ⟨ht1, ht2⟩ := hti
  have hb : (s[p].toNat : Int) ≤ 255 := by have := s[p].toNat_lt; omega
  have HT := Lib.hid ht
  obtain ⟨P, hP⟩ : ∃ P, P = NodeOut R s p false (rdG nmL (f + 1) (rest s p)) w := ⟨_, rfl⟩
  rw [← hP]
  have HP := Lib.hid hP
  clear hP hwa hR hRa ht ih
  go_enter Tryd.func62, Tryd.ntmps62
  go_wp2_with fail
  rw [← HWA.out]
  go_quiet (fail)
  obtain ⟨n1, hn1⟩ : ∃ n1, n1 = nq := ⟨nq, rfl⟩
  rw [← hn1]
  clear hn1
  go_wp2_with fail
  go_quiet (fail)
  go_wp2_with (go_at_call 57; refine (l1In_any _ _ _ _).mono ?_; rintro e w' ⟨rfl, rfl⟩)
  have I1 := is_any R s p false 40 hs (by omega) (wa.drewN (n1 + nq)) (HR.out.drawn _)
  refine I1.mono ?_
  rintro _ w1 ⟨rfl, ⟨p1, b1, R1, k1⟩, g1⟩
  have G1 := Lib.hid (show wa.grownBy w1 (some R) from grown_drewNT _ g1)
  have hp1 := (k1.le (by omega)).2
  have HK1 := Lib.hid k1
  have HR1 := Lib.hid R1
  have r1 := R1.c1
  clear I1 g1 k1 R1 c0 c1 c2
  go_wp2_with fail
  have HLT := Lib.hid (fun k h => ds_lt s p1 k h)
  have HEND := Lib.hid (fun h h3 => ds_end s p1 h h3)
  have HCUT := Lib.hid (ds_cut s p1)
  obtain ⟨L, hL⟩ : ∃ L, L = (dsL (rest s p1)).length := ⟨_, rfl⟩
  rw [← hL] at HLT HEND HCUT
  have hL3 : L ≤ 3 := by rw [hL]; exact dsL_len _
  have HL := Lib.hid hL
  clear hL r1
  have hLs : p1 + L ≤ s.size := by
    have := dsL_prefix (rest s p1)
    have h2 := congrArg List.length this
    rw [List.length_append, ← HL.out, rest_len] at h2
    omega
  go_loopw [] (fun wr => ∃ m : Nat, p1 ≤ m ∧ m ≤ p1 + L ∧ Hid (RdS wr R s m b1) ∧ Hid (w1.grownBy wr (some R))) (fun wr => 4 + p1 - mAt R wr)
  case atStart => exact ⟨p1, Nat.le_refl _, Nat.le_add_right _ _, HR1.out, World.grownBy.refl _ _⟩
  case round =>
    obtain ⟨m, hm0, hm1, HRk, HGk⟩ := hrel
    have HMA := Lib.hid (mAt_rd HRk.out)
    have c0 := HRk.out.c0
    have c1 := HRk.out.c1
    have z1 := HRk.out.z1
    have hin := Lib.hid (fun (a b : Int) W => l1In_any a 48 57 W)
    by_cases hlt : m < p1 + L
    · obtain ⟨h3, hms, hd⟩ := HLT.out (m - p1) (by omega)
      have he : p1 + (m - p1) = m := by omega
      simp only [he] at hms hd
      have hb2 : (s[m].toNat : Int) ≤ 255 := by have := s[m].toNat_lt; omega
      have hdg : inB (s[m].toNat : Int) 48 57 = true := by have := (dgU_iff _).1 hd; simp only [inB, decide_eq_true_eq]; exact this
      have hmi : (m : Int) < (s.size : Int) := by omega
      have hm3 : (m : Int) < (p1 : Int) + 3 := by omega
      clear h3 hd he
      go_wp2_with fail
      go_quiet ((go_at_call 57; exact Calls.quiet_of_same ((l1In_any _ _ _ _).mono fun _ _ h => ⟨h.1, h.2.symm⟩)))
      go_wp2_with fail
      go_roundw
      case rel => exact ⟨m + 1, by omega, by omega, (HRk.out.drawn nq).setAt (m + 1), grown_set_row (grown_drewNT' HGk.out nq) _ _⟩
      case measure =>
        have h9 := mAt_rd ((HRk.out.drawn nq).setAt (m + 1))
        rw [HMA.out]
        show 4 + p1 - mAt R ((wr.drewN nq).setCell ⟨R, 1, none⟩ (.int .i64 ((m + 1 : Nat) : Int))) < _
        rw [h9]
        omega
    · have hme : m = p1 + L := by omega
      subst hme
      have hmi0 : ((p1 + L : Nat) : Int) ≤ (s.size : Int) := by omega
      obtain ⟨m, hm⟩ : ∃ m, m = p1 + L := ⟨_, rfl⟩
      rw [← hm] at c1 hmi0 hm1 hm0 HRk HEND HMA hLs
      have HM := Lib.hid hm
      go_wp2_with fail
      go_cut [94] (fun s94 wx => s94 = .bool false ∧ Hid (∃ n, wx = wr.drewN n))
      case first =>
        by_cases hms : m < s.size
        · have hmi : (m : Int) < (s.size : Int) := by omega
          have hb2 : (s[m].toNat : Int) ≤ 255 := by have := s[m].toNat_lt; omega
          cases hdg : inB (s[m].toNat : Int) 48 57 with
          | false =>
            clear hm hm0 hm1 hL3 hlt
            go_quiet ((go_at_call 57; exact Calls.quiet_of_same ((l1In_any _ _ _ _).mono fun _ _ h => ⟨h.1, h.2.symm⟩)))
            go_wp2_with fail
            go_meet
            exact ⟨rfl, ⟨_, rfl⟩⟩
          | true =>
            have hL33 : L = 3 := by
              rcases Nat.lt_or_ge L 3 with h | h
              · have := HEND.out hms h
                rw [← Bool.not_eq_true, dgU_iff] at this
                simp only [inB, decide_eq_true_eq] at hdg
                exact absurd hdg this
              · omega
            have hm3 : ¬ (m : Int) < (p1 : Int) + 3 := by omega
            clear hm hm0 hm1 hL3 hlt hL33
            go_quiet ((go_at_call 57; exact Calls.quiet_of_same ((l1In_any _ _ _ _).mono fun _ _ h => ⟨h.1, h.2.symm⟩)))
            go_wp2_with fail
            go_meet
            exact ⟨rfl, ⟨_, rfl⟩⟩
        · have hmi : ¬ (m : Int) < (s.size : Int) := by omega
          clear hm hm0 hm1 hL3 hlt
          go_quiet (fail)
          go_wp2_with fail
          go_meet
          exact ⟨rfl, ⟨_, rfl⟩⟩
      case rest =>
        obtain ⟨rfl, HN⟩ := hcut
        have HRc : Hid (RdS wc R s m b1) := by obtain ⟨n, hn⟩ := HN.out; subst hn; exact Lib.hid (HRk.out.drawn n)
        have HGc : Hid (wa.grownBy wc (some R)) := by obtain ⟨n, hn⟩ := HN.out; subst hn; exact Lib.hid (grown_drewNT' (G1.out.trans HGk.out) n)
        clear c0 c1 z1 HRk HGk HN HMA
        have c0 := HRc.out.c0
        have c1 := HRc.out.c1
        have c2 := HRc.out.c2
        have hpm : (p1 : Int) ≤ (m : Int) := by omega
        have HNUM := Lib.hid (fun W => num_digits (s.extract p1 m) (by rw [hm, HCUT.out]; exact dsL_dg _) (by rw [hm, HCUT.out, ← HL.out]; exact hL3) W)
        have hz : ls (s.extract p1 m) = dsL (rest s p1) := by rw [hm]; exact HCUT.out
        rw [hz] at HNUM
        clear hz hm
        obtain ⟨nv, hnv⟩ : ∃ nv, nv = numV (dsL (rest s p1)) := ⟨_, rfl⟩
        obtain ⟨pl, hpl⟩ : ∃ pl, pl = plainL (dsL (rest s p1)) := ⟨_, rfl⟩
        rw [← hnv, ← hpl] at HNUM
        have HNV := Lib.hid hnv
        have HPL := Lib.hid hpl
        clear hnv hpl
        go_wp2_with fail
        go_quiet ((go_at_call 79; exact Calls.quiet_of_same (HNUM.out _)))
        obtain ⟨wd, hwd⟩ : ∃ wd, wd = wc.drewN nq := ⟨_, rfl⟩
        have HRd := Lib.hid (show RdS wd R s m b1 by rw [hwd]; exact HRc.out.drawn _)
        have HGd := Lib.hid (show wa.grownBy wd (some R) by rw [hwd]; exact grown_drewNT' HGc.out _)
        rw [← hwd]
        clear hwd c0 c1 c2 HRc HGc
        go_upto_region 13 with fail
        obtain ⟨b2, hb2⟩ : ∃ b2, b2 = (b1 || !(pl && inB nv 1 31)) := ⟨_, rfl⟩
        go_cut [] (fun wx => Hid (RdS wx R s m b2) ∧ Hid (wa.grownBy wx (some R)))
        case first =>
          have d2 := HRd.out.c2
          have z2 := HRd.out.z2
          clear hmi0 hm0 hm1 hLs hL3 hlt hpm
          cases b1 with
          | true =>
            simp only [Bool.true_or] at hb2
            subst hb2
            go_wp2_with fail
            go_meet
            exact ⟨HRd.out.setBad true, grown_set_row HGd.out _ _⟩
          | false =>
            cases pl with
            | false =>
              simp only [Bool.false_and, Bool.not_false, Bool.false_or] at hb2
              subst hb2
              go_wp2_with fail
              go_meet
              exact ⟨HRd.out.setBad true, grown_set_row HGd.out _ _⟩
            | true =>
              simp only [Bool.true_and, Bool.false_or] at hb2
              cases hin2 : inB nv 1 31
              all_goals
                rw [hin2] at hb2
                simp only [Bool.not_false, Bool.not_true] at hb2
                subst hb2
                go_wp2_with (go_at_call 57; refine (l1In_any _ _ _ _).mono ?_; rintro e w' ⟨rfl, rfl⟩)
                go_meet
                exact ⟨HRd.out.setBad _, grown_set_row HGd.out _ _⟩
        case rest =>
          obtain ⟨HRe, HGe⟩ := hcut
          have hms : m ≤ s.size := by rw [HM.out]; exact (by have := HM.out; omega)
          have hfu : b2 = false → s.size - m < f := fun h => by
            rw [h] at hb2
            have hb1 : b1 = false := by
              cases hh : b1 with
              | false => rfl
              | true => rw [hh] at hb2; simp at hb2
            rcases HK1.out with ⟨_, e, _, _⟩ | ⟨_, _, e⟩
            · omega
            · rw [hb1] at e; cases e
          have HN1 := Lib.hid (HIH.out R s m b2 wc HRe.out hms hs hfu)
          have HB2 := Lib.hid hb2
          clear hmi0 hm0 hm1 hLs hL3 hlt hpm hb2 hfu
          go_wp2_with fail
          refine HN1.out.mono ?_
          rintro _ w2 ⟨⟨t1, tg1, kk1, sd1, p3, b3, rfl, nd1, R3, hq1, hq2, hd3, he3⟩, g2⟩
          obtain ⟨a1, len1, cap1, rfl⟩ := nd1.slice
          have HND := Lib.hid nd1
          have HR3 := Lib.hid R3
          have HG3 := Lib.hid (HGe.out.trans g2)
          have HGW := Lib.hid g2.size
          have HD3 := Lib.hid hd3
          have HE3 := Lib.hid he3
          have hwz : wa.heap.size ≤ wc.heap.size := HGe.out.size
          have hwz3 : wc.heap.size ≤ w2.heap.size := g2.size
          have HS2 := Lib.hid (show w2.heap.size = w2.heap.size from rfl)
          obtain ⟨w3, hw3⟩ : ∃ w3, w3 = (w2.alloc (.cells #[.string tg1, .int .i64 kk1, .slice a1 len1 cap1] 59)).alloc (.cells #[.string ⟨#[]⟩, .int .i64 nv, .slice (some ⟨w2.heap.size, 0, none⟩) 1 1] 59) := ⟨_, rfl⟩
          have g23 : w2.grownBy w3 none := by rw [hw3]; exact (World.grownBy_alloc _ _ _).trans (World.grownBy_alloc _ _ _)
          have S3 : Box3 w3 w2.heap.size 59 (.string tg1) (.int .i64 kk1) (.slice a1 len1 cap1) := by rw [hw3]; exact (Box3.new _ _ _ _ _).alloc _
          have O3 : Box3 w3 (w2.heap.size + 1) 59 (.string ⟨#[]⟩) (.int .i64 nv) (.slice (some ⟨w2.heap.size, 0, none⟩) 1 1) := by
            have := Box3.new (w2.alloc (.cells #[.string tg1, .int .i64 kk1, .slice a1 len1 cap1] 59)) 59 (.string ⟨#[]⟩) (.int .i64 nv) (.slice (some ⟨w2.heap.size, 0, none⟩) 1 1)
            rw [World.size_alloc] at this
            rw [hw3]
            exact this
          have hR2 := R3.lt
          have HB23 := Lib.hid (fun k (hk : k < w2.heap.size) => g23.block k hk (by simp))
          have hwz2 : wc.heap.size ≤ w2.heap.size := HGW.out
          have R33 := R3.kept g23 (by simp)
          have I4 := Lib.hid (is_any R s p3 b3 44 hs hq2 w3 R33)
          have HG33 := Lib.hid (HG3.out.trans ⟨g23.os, g23.tape, g23.output, g23.size, fun k hk _ => g23.block k hk (by simp)⟩)
          have z33 : w3.heap.size = w2.heap.size + 2 := by rw [hw3]; simp
          have HW3 := Lib.hid hw3
          have HS3 := Lib.hid S3
          have HO3 := Lib.hid O3
          clear nd1 R3 g2 hd3 he3 S3 O3 R33 g23 HR3 HG3 HGW
          go_wp2_with fail
          rw [← HW3.out]
          clear hw3
          refine I4.out.mono ?_
          rintro _ w4 ⟨rfl, ⟨p4, b4, R4, k4⟩, g4⟩
          have hq4 := (k4.le hq2)
          have HK4 := Lib.hid k4
          have HR4 := Lib.hid R4
          have HB24 := Lib.hid (fun k (h0 : wc.heap.size ≤ k) (hk : k < w2.heap.size) => (g4.block k (by omega) (by simp; omega)).trans (HB23.out k hk))
          have HG4 := Lib.hid (HG33.out.trans g4)
          have HS4 := Lib.hid (HS3.out.kept g4 (by simp; omega))
          have HO4 := Lib.hid (HO3.out.kept g4 (by simp; omega))
          have z44 : w2.heap.size + 2 ≤ w4.heap.size := by have := g4.size; omega
          have hfu : b4 = false → s.size - p4 < f := fun h => by
            rw [h] at k4
            rcases k4 with ⟨_, e, e2, _⟩ | ⟨_, _, e⟩
            · have hb2 : b2 = false := by
                have := HD3.out
                rw [← e2] at this
                cases hh : b2 with
                | false => rfl
                | true => rw [hh] at this; simp at this
              have h2 := HB2.out
              rw [hb2] at h2
              have hb1 : b1 = false := by
                cases hh : b1 with
                | false => rfl
                | true => rw [hh] at h2; simp at h2
              have hm := HM.out
              rcases HK1.out with ⟨_, e, _, _⟩ | ⟨_, _, e⟩
              · omega
              · rw [hb1] at e; cases e
            · cases e
          have e2 := HO4.out.c2
          clear g4 R4 k4
          go_upto_region 16 with fail
          go_cut [] (fun wx => Hid (PairAt R s f p4 b4 (w2.heap.size + 1) nv t1 wa wx))
          case first =>
            obtain ⟨i0, hi, hi0, hi1, hi2⟩ := infoNd_parts
            go_region_law (first
              | (refine step_call1 _ (by rfl) 62 (.tmp 141) 96 (by rfl) (enters_of Tryd.func62 (by kernel_rfl) rfl) (.pointer (some ⟨R, 0, none⟩)) (by rfl) ((HIH.out R s p4 b4 _ (by exact HR4.out) hq4.2 hs hfu).mono ?_); rintro _ w5 ⟨⟨t2, tg2, kk2, sd2, p5, b5, rfl, nd2, R5, hq5, hq6, hd5, he5⟩, g5⟩; obtain ⟨a2, len2, cap2, rfl⟩ := nd2.slice; refine ⟨_, rfl, ?_⟩; have G45 := Lib.hid (show w4.grownBy w5 (some R) from ⟨g5.os, g5.tape, g5.output, g5.size, g5.block⟩); have HS5 := Lib.hid (HS4.out.kept G45.out (by simp; omega)); have HO5 := Lib.hid (HO4.out.kept G45.out (by simp; omega)); have HND2 := Lib.hid nd2; have HR5 := Lib.hid R5; have HD5 := Lib.hid hd5; have HE5 := Lib.hid he5; have z55 := G45.out.size; have e5 := HO5.out.c2; have e5a := (HO5.out.alloc (.cells #[.string tg2, .int .i64 kk2, .slice a2 len2 cap2] 59)).c2; clear nd2 R5 hd5 he5 g5)
              | (refine step_append_ownT _ (by rfl) (.tmp 140) (.tmp 143) 57 (by rfl) w.heap.size 59 i0 (.agg #[.string ⟨#[]⟩, .int .i64 0, .slice none 0 0]) 3 48 Tryd.underlying57 hi hi0 hi1 hi2 rfl (by decide) (.slice (some ⟨w2.heap.size, 0, none⟩) 1 1) 1 [.string tg1, .int .i64 kk1, .slice a1 len1 cap1] (by rfl) (own_of_box (t := 59) (by exact HS5.out.alloc _) (by omega)) ⟨w5.heap.size, 0, none⟩ 1 1 [.string tg2, .int .i64 kk2, .slice a2 len2 cap2] (by first | rfl | (go_simp; done)) rfl (cells3 (t := 59) (by exact Box3.new w5 _ _ _ _)) (one3 _ _ _ _ _) (by unfold maxLen; omega) (by omega) (by simp; omega) ?_; intro v6 w6 hown6 hgrow6 hat6; obtain ⟨g6, cap6, rfl⟩ := ownsRow_succ hown6; have G56 := Lib.hid (show (w5.alloc (.cells #[.string tg2, .int .i64 kk2, .slice a2 len2 cap2] 59)).grownBy w6 (some w2.heap.size) from ⟨hgrow6.os, hgrow6.tape, hgrow6.output, hgrow6.size, hgrow6.block⟩); have HOW := Lib.hid hown6; have HAT := Lib.hid (show g6 = w2.heap.size ∨ g6 = w5.heap.size + 1 by simpa [Value.ownBlock] using hat6); have HO6 := Lib.hid ((HO5.out.alloc (.cells #[.string tg2, .int .i64 kk2, .slice a2 len2 cap2] 59)).kept G56.out (by simp)); have e6 := HO6.out.c2; have f6 := HO6.out.z 2; clear hown6 hgrow6 hat6))
            all_goals
              go_wp2_with fail
              go_meet
              exact Lib.hid (pair_made w wa wc w2 w4 w5 w6 R s f p4 p5 b4 b5 nv t1 t2 tg1 tg2 kk1 kk2 a1 a2 len1 cap1 len2 cap2 g6 cap6 hRl hza hwz hwz3 z44 z55 HND.out HB24.out HG4.out G45.out HND2.out HR5.out hq5 hq6 HD5.out HE5.out G56.out HOW.out HAT.out HO6.out)
          case rest =>
            obtain ⟨t2, tl, tr, kl, kr, sl, sr, p5, b5, g, cap, R5, hq5, hq6, hd5, he5, O5, N1, N2, hg0, hg1, hcells, G5⟩ := hcut.out
            have HR5 := Lib.hid R5
            have HO5 := Lib.hid O5
            have HN1' := Lib.hid N1
            have HN2 := Lib.hid N2
            have HC := Lib.hid hcells
            have HG5 := Lib.hid G5
            have HD5 := Lib.hid hd5
            have HE5 := Lib.hid he5
            have I6 := Lib.hid (is_any R s p5 b5 41 hs hq6 wc R5)
            clear R5 O5 N1 N2 hcells G5 hd5 he5 hcut
            go_wp2_with fail
            refine I6.out.mono ?_
            rintro _ w6 ⟨rfl, ⟨p6, b6, R6, k6⟩, g6⟩
            have hq7 := k6.le hq6
            have G6 := HG5.out.trans g6
            have hgs := g6.size
            have hne5 : some (w2.heap.size + 1) ≠ some R := by simp; omega
            have O6 := HO5.out.kept g6 hne5
            have X6 := HX.out.kept G6 (by simp; omega)
            have M1 := HN1'.out.kept g6 (fun q e => by cases e; omega)
            have M2 := HN2.out.kept g6 (fun q e => by cases e; omega)
            obtain ⟨y0, y1, y2, y3, y4, y5⟩ := HC.out
            have hgR : some g ≠ some R := by simp; omega
            have HC6 := Lib.hid (show w6.cell? ⟨g, 0, none⟩ = some (.string tl) ∧ w6.cell? ⟨g, 1, none⟩ = some (.int .i64 kl) ∧ w6.cell? ⟨g, 2, none⟩ = some sl ∧ w6.cell? ⟨g, 3, none⟩ = some (.string tr) ∧ w6.cell? ⟨g, 4, none⟩ = some (.int .i64 kr) ∧ w6.cell? ⟨g, 5, none⟩ = some sr from ⟨g6.cell y0 hgR, g6.cell y1 hgR, g6.cell y2 hgR, g6.cell y3 hgR, g6.cell y4 hgR, g6.cell y5 hgR⟩)
            have HR6 := Lib.hid R6
            have HK6 := Lib.hid k6
            have HG6 := Lib.hid G6
            have HM1 := Lib.hid M1
            have HM2 := Lib.hid M2
            have HX6 := Lib.hid X6
            have o0 := O6.c0
            have o1 := O6.c1
            have o2 := O6.c2
            have x0 := X6.c0
            have x1 := X6.c1
            have x2 := X6.c2
            have v0 := X6.z 0
            have v1 := X6.z 1
            have v2 := X6.z 2
            clear R6 k6 G6 g6 O6 X6 M1 M2 y0 y1 y2 y3 y4 y5 hne5
            go_wp2
            have HY := ((HX6.out.set0 (.string ⟨#[]⟩)).set1 (.int .i64 nv)).set2 (.slice (some ⟨g, 0, none⟩) 2 cap)
            refine bodyPost_ret (v := .agg #[.string ⟨#[]⟩, .int .i64 nv, .slice (some ⟨g, 0, none⟩) 2 cap]) (by simp [results, Tryd.results62, go_sem, HY.c0, HY.c1, HY.c2]) rfl ?_
            rw [HP.out]
            have hm := HM.out
            have hLL := HL.out
            have hp1' := HK1.out.le (Nat.le_of_lt hp)
            have hok := ok_num (d := dsL (rest s p1))
            have h2 := HB2.out
            rw [HPL.out, HNV.out, hok.1] at h2
            have e1 : rest s m = rest s (p1 + (dsL (rest s p1)).length) := by rw [hm, hLL]
            exact node_made w wa w6 R s p p6 g cap b6 nv t1 t2 tl tr kl kr sl sr _ hRl HWA.out HR6.out (by omega) hq7.2 HG6.out hg0 (by omega) HC6.out HM1.out HM2.out
              (node_sum s p f p1 p3 p4 p5 p6 b1 b2 b3 b4 b5 b6 nv t1 t2 hp HT.out HK1.out h2 (fun h => by rw [HNV.out]; exact hok.2 h) _ (by rw [e1]) HD3.out HE3.out HK4.out _ rfl HD5.out HE5.out HK6.out)

theorem node_any : ∀ f, NodeC f
  | 0 => fun R s p b w hR hp hs hf => by
    cases b with
    | true => exact node_end R s p true _ w hR hp hs (.inl rfl)
    | false => exact absurd (hf rfl) (Nat.not_lt_zero _)
  | f + 1 => fun R s p b w hR hp hs hf => by
    cases b with
    | true => exact node_end R s p true _ w hR hp hs (.inl rfl)
    | false =>
      by_cases hlt : p < s.size
      · cases ht : tgU s[p] with
        | true => exact node_leaf R s p f w hR hlt hs ht
        | false => exact node_cmp f (node_any f) R s p w hR hlt hs (hf rfl) ht
      · exact node_end R s p false _ w hR hp hs (.inr ⟨rfl, by omega, by rw [rest_nil (by omega)]; rfl⟩)
end Go.Proofs.YtndnbeijmhcepaaDoor
