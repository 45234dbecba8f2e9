
/- Reading a tree, the model: l4Read. -/
import Derived.Test.YtndnbeijmhcepaaDoorKsTreeJ
namespace Go.Proofs.YtndnbeijmhcepaaDoor
open Go.RowKit Go.Lib Go.Shelf

/-- What l4Read hands back. -/
def ReadS (o : Option TreeD) (w : World) (x : Ending) (w' : World) : Prop :=
  (match o with
   | some t => ∃ (tg : ByteArray) (k : Int) (sd : Value), x = .returned (.tuple #[.agg #[.string tg, .int .i64 k, sd], .bool true]) ∧ NodeIs w.heap.size w' t tg k sd
   | none => x = .returned (.tuple #[.agg #[.string ⟨#[]⟩, .int .i64 0, .slice none 0 0], .bool false])) ∧ Below w.heap.size w w'

set_option maxRecDepth 100000 in
set_option maxHeartbeats 1000000 in
theorem specRead_any (s : ByteArray) (hs : s.size ≤ 2000000) (w : World) : Calls Tryd.prog 41 #[.string s] w (ReadS (treeS (ls s)) w) := by
  have hsi : (s.size : Int) ≤ 2000000 := by omega
  obtain ⟨wa, hwa⟩ : ∃ wa, wa = w.alloc (.cells #[.string ⟨#[]⟩, .int .i64 0, .slice none 0 0] 59) := ⟨_, rfl⟩
  obtain ⟨P, hP⟩ : ∃ P, P = ReadS (treeS (ls s)) w := ⟨_, rfl⟩
  rw [← hP]
  have HP := Lib.hid hP
  clear hP
  obtain ⟨wb, hwb⟩ : ∃ wb, wb = wa.alloc (.cells #[.string s, .int .i64 0, .bool false] 98) := ⟨_, rfl⟩
  have za : wa.heap.size = w.heap.size + 1 := by rw [hwa]; simp
  have zb : wb.heap.size = w.heap.size + 2 := by rw [hwb]; simp [za]
  have RB : RdS wb (w.heap.size + 1) s 0 false := by rw [← za, hwb]; exact World.alloc_heap_new wa _
  have XA : Box3 wb w.heap.size 59 (.string ⟨#[]⟩) (.int .i64 0) (.slice none 0 0) := by rw [hwb]; exact (by rw [hwa]; exact Box3.new _ _ _ _ _ : Box3 wa _ _ _ _ _).alloc _
  have GB : w.grownBy wb none := by rw [hwb, hwa]; exact (World.grownBy_alloc _ _ _).trans (World.grownBy_alloc _ _ _)
  have HN := Lib.hid (node_any (s.size + 1) (w.heap.size + 1) s 0 false wb RB (Nat.zero_le _) hs (fun _ => Nat.lt_succ_of_le (Nat.sub_le _ _)))
  have HXA := Lib.hid XA
  have HGB := Lib.hid GB
  have HWB := Lib.hid (show (w.alloc (.cells #[.string ⟨#[]⟩, .int .i64 0, .slice none 0 0] 59)).alloc (.cells #[.string s, .int .i64 0, .bool false] 98) = wb by rw [hwb, hwa])
  clear hwa hwb RB XA GB
  go_enter Tryd.func41, Tryd.ntmps41
  go_wp2_with fail
  rw [HWB.out]
  refine HN.out.mono ?_
  rintro _ w3 ⟨⟨t, tg, k, sd, q, d, rfl, nd, R3, _, hq, hd, he⟩, g3⟩
  obtain ⟨a1, n1, c1, rfl⟩ := nd.slice
  have X3 := (HXA.out.kept g3 (by simp)).alloc (.cells #[.string tg, .int .i64 k, .slice a1 n1 c1] 59)
  have R4 := R3.alloc (.cells #[.string tg, .int .i64 k, .slice a1 n1 c1] 59)
  have b0 := R4.c0
  have b1 := R4.c1
  have b2 := R4.c2
  have x0 := X3.c0
  have x1 := X3.c1
  have x2 := X3.c2
  have f0 := X3.z 0
  have f1 := X3.z 1
  have f2 := X3.z 2
  have z3 := g3.size
  have HG3 := Lib.hid (grown_alloc (grown_far HGB.out g3 (Nat.le_succ _)) (.cells #[.string tg, .int .i64 k, .slice a1 n1 c1] 59))
  have HND := Lib.hid (nd.kept (World.grownBy_alloc w3 (.cells #[.string tg, .int .i64 k, .slice a1 n1 c1] 59) none) (fun q e => by cases e))
  have HX3 := Lib.hid X3
  have hqi : (q : Int) ≤ (s.size : Int) := by omega
  have HD := Lib.hid hd
  have HE := Lib.hid he
  clear nd R3 R4 X3 g3 hd he
  have HNone := Lib.hid (show treeS (ls s) = none → ∀ W, w.grownBy W none → P (.returned (.tuple #[.agg #[.string ⟨#[]⟩, .int .i64 0, .slice none 0 0], .bool false])) W from fun h W hW => by
    rw [HP.out]
    unfold ReadS
    rw [h]
    exact ⟨rfl, hW.os, hW.tape, hW.output, hW.size, fun k hk => hW.block k hk (by simp)⟩)
  have hrest : rest s 0 = ls s := by simp [rest]
  have HTR := Lib.hid (show (d = true → treeS (ls s) = none) ∧ (d = false → (q ≠ s.size ∨ 200 < s.size → treeS (ls s) = none) ∧ (q = s.size → s.size ≤ 200 → treeS (ls s) = some t)) from by
    have hd := HD.out
    have he := HE.out
    rw [hrest] at hd he
    rw [treeS, ls_len]
    refine ⟨fun h => ?_, fun h => ?_⟩
    · rw [h] at hd
      cases ho : rdG nmL (s.size + 1) (ls s) with
      | none => rfl
      | some o => rw [ho] at hd; simp at hd
    · rw [he h]
      refine ⟨fun h2 => ?_, fun h2 h3 => ?_⟩
      · by_cases hqs : q = s.size
        · have h4 : ¬ s.size ≤ 200 := by omega
          rw [rest_nil (by omega)]
          simp [h4]
        · rw [rest_cons (by omega)]
      · rw [rest_nil (by omega)]
        simp [h3])
  cases d with
  | true =>
    go_wp2
    have HY := ((HX3.out.set0 (.string ⟨#[]⟩)).set1 (.int .i64 0)).set2 (.slice none 0 0)
    refine bodyPost_ret (v := .tuple #[.agg #[.string ⟨#[]⟩, .int .i64 0, .slice none 0 0], .bool false]) (by simp [results, Tryd.results41, go_sem, HY.c0, HY.c1, HY.c2]) rfl ?_
    exact HNone.out (HTR.out.1 trivial) _ (grown_set_new (grown_set_new (grown_set_new HG3.out (Nat.le_refl _) _ _) (Nat.le_refl _) _ _) (Nat.le_refl _) _ _)
  | false =>
    by_cases hqs : q = s.size
    · by_cases h2 : s.size ≤ 200
      · have h3 : ((q : Int) != (s.size : Int)) = false := by simp [hqs]
        have h4 : (s.size : Int) ≤ 200 := by omega
        have HS := Lib.hid ((HTR.out.2 rfl).2 hqs h2)
        clear hqs
        go_wp2
        have HY := ((HX3.out.set0 (.string tg)).set1 (.int .i64 k)).set2 (.slice a1 n1 c1)
        refine bodyPost_ret (v := .tuple #[.agg #[.string tg, .int .i64 k, .slice a1 n1 c1], .bool true]) (by simp [results, Tryd.results41, go_sem, HY.c0, HY.c1, HY.c2]) rfl ?_
        rw [HP.out]
        unfold ReadS
        rw [HS.out]
        have hW := grown_set_new (grown_set_new (grown_set_new HG3.out (Nat.le_refl _) 0 (.string tg)) (Nat.le_refl _) 1 (.int .i64 k)) (Nat.le_refl _) 2 (.slice a1 n1 c1)
        exact ⟨⟨_, _, _, rfl, (((HND.out.kept (grown_setCell _ w.heap.size 0 _) (fun q e => by cases e; omega)).kept (grown_setCell _ w.heap.size 1 _) (fun q e => by cases e; omega)).kept (grown_setCell _ w.heap.size 2 _) (fun q e => by cases e; omega)).base (by omega)⟩, hW.os, hW.tape, hW.output, hW.size, fun k hk => hW.block k hk (by simp)⟩
      · have h3 : ((q : Int) != (s.size : Int)) = false := by simp [hqs]
        have h4 : ¬ (s.size : Int) ≤ 200 := by omega
        have HS := Lib.hid ((HTR.out.2 rfl).1 (.inr (by omega)))
        clear hqs
        go_wp2
        have HY := ((HX3.out.set0 (.string ⟨#[]⟩)).set1 (.int .i64 0)).set2 (.slice none 0 0)
        refine bodyPost_ret (v := .tuple #[.agg #[.string ⟨#[]⟩, .int .i64 0, .slice none 0 0], .bool false]) (by simp [results, Tryd.results41, go_sem, HY.c0, HY.c1, HY.c2]) rfl ?_
        exact HNone.out (HS.out) _ (grown_set_new (grown_set_new (grown_set_new HG3.out (Nat.le_refl _) _ _) (Nat.le_refl _) _ _) (Nat.le_refl _) _ _)
    · have h3 : ((q : Int) != (s.size : Int)) = true := by simp; omega
      have HS := Lib.hid ((HTR.out.2 rfl).1 (.inl hqs))
      clear hqs
      go_wp2
      have HY := ((HX3.out.set0 (.string ⟨#[]⟩)).set1 (.int .i64 0)).set2 (.slice none 0 0)
      refine bodyPost_ret (v := .tuple #[.agg #[.string ⟨#[]⟩, .int .i64 0, .slice none 0 0], .bool false]) (by simp [results, Tryd.results41, go_sem, HY.c0, HY.c1, HY.c2]) rfl ?_
      exact HNone.out (HS.out) _ (grown_set_new (grown_set_new (grown_set_new HG3.out (Nat.le_refl _) _ _) (Nat.le_refl _) _ _) (Nat.le_refl _) _ _)
end Go.Proofs.YtndnbeijmhcepaaDoor
