
/- Draws of switches: l1Known. -/
import Derived.Test.YtoiljohaicpncaaDoorKsKnown
import Derived.Test.YtoiljohaicpncaaDoorKsDraw2
namespace Go.Proofs.YtoiljohaicpncaaDoor
open Go.RowKit Go.Shelf Go.Lib Go.Sort

/-- A switch that a call has made. -/
def MadeSw (base : Nat) (D : Array CaseD) (rest : Int) (x : Ending) (w' : World) : Prop := ∃ v, x = .returned (.agg #[v, .int .i64 rest]) ∧ OwnsC base v D.toList w' ∧ v ≠ .slice none 0 0

/-- A switch put into its box, whole. -/
theorem put_sw {W : World} {B base : Nat} {v u : Value} {r : Int} {l : List CaseD} (hB : BoxS W B v r) (hO : OwnsC base u l W) (z : Int) :
    BoxS ((W.setCell ⟨B, 0, none⟩ u).setCell ⟨B, 1, none⟩ (.int .i64 z)) B u z ∧ OwnsC base u l ((W.setCell ⟨B, 0, none⟩ u).setCell ⟨B, 1, none⟩ (.int .i64 z)) ∧ W.grownBy ((W.setCell ⟨B, 0, none⟩ u).setCell ⟨B, 1, none⟩ (.int .i64 z)) (some B) := by
  have g1 := grown_set W B 0 u
  have g2 := grown_set (W.setCell ⟨B, 0, none⟩ u) B 1 (.int .i64 z)
  have hn := hB.not_row hO
  exact ⟨(hB.set u).set1 z, World.ownsRow.kept (World.ownsRow.kept hO g1 (.inr hn)) g2 (.inr hn), g1.trans g2⟩

set_option maxRecDepth 100000 in
set_option maxHeartbeats 2000000 in
theorem known_any (k : Nat) (hk : k < 10) (w : World) : Calls Tryd.prog 144 #[.int .i64 k] w fun x w' => ∃ D rest, SwOK D rest ∧ MadeSw w.heap.size D rest x w' ∧ RowKit.Below w.heap.size w w' := by
  have HP := Lib.hid (fun W => specParse_any (knownT k) (Nat.le_trans (knownT_size k) (by decide)) W)
  have HE := Lib.hid (known_ex k)
  obtain ⟨wa, hwa⟩ : ∃ wa, wa = w.alloc (.cells #[.slice none 0 0, .int .i64 0] 25) := ⟨_, rfl⟩
  have hRX : BoxS wa w.heap.size (.slice none 0 0) 0 := by rw [hwa]; exact BoxS.new _ _ _
  have HBA := Lib.hid (show RowKit.Below w.heap.size w wa by rw [hwa]; exact (Below.refl _ _).alloc (Nat.le_refl _) _)
  have hz : w.heap.size < wa.heap.size := by rw [hwa]; simp
  have HRX := Lib.hid hRX
  have HWA := Lib.hid hwa
  clear hwa hRX
  have hk2 : k = 0 ∨ k = 1 ∨ k = 2 ∨ k = 3 ∨ k = 4 ∨ k = 5 ∨ k = 6 ∨ k = 7 ∨ k = 8 ∨ k = 9 := by omega
  clear hk
  rcases hk2 with rfl | rfl | rfl | rfl | rfl | rfl | rfl | rfl | rfl | rfl
  all_goals
    go_enter Tryd.func144, Tryd.ntmps144
    go_wp2_with fail
    rw [← HWA.out]
    refine (HP.out _).mono ?_
    generalize hwb : wa.alloc (.cells _ 9) = wb
    have HBB := Lib.hid (show RowKit.Below wa.heap.size wa wb by rw [← hwb]; exact (Below.refl _ _).alloc (Nat.le_refl _) _)
    have hzb : wa.heap.size < wb.heap.size := by rw [← hwb]; simp
    clear hwb
    rintro x w1 (⟨D, r, v, hp, rfl, ho, hv, hb⟩ | ⟨hno, _⟩)
    · obtain ⟨gd, cd, rfl, hgd, hcd, hmd⟩ := owns_form ho hv
      have hDl : D.toList.length = D.size := Array.length_toList
      rw [hDl] at ho hv
      have HO := Lib.hid ho
      have HS := Lib.hid hp.1
      have HV := Lib.hid hv
      have HB := Lib.hid ((HBA.out.trans (HBB.out.mono (Nat.le_of_lt hz))).trans (hb.mono (by omega)))
      have hzw := hb.size
      have RX1 := (HRX.out.kept (grown_of_below HBB.out) (by simp)).kept (grown_of_below hb) (by simp)
      have d0 := RX1.c0
      have d1 := RX1.c1
      have d2 := RX1.z 0
      have d3 := RX1.z 1
      have hlt := RX1.lt
      obtain ⟨RX3, O3, G3⟩ := put_sw RX1 ho r
      have HR4 := Lib.hid (RX3.kept (row := none) (World.grownBy_alloc _ (.cells #[.slice (some ⟨gd, 0, none⟩) D.size cd, .int .i64 r] 25) none) (by simp))
      have HO4 := Lib.hid O3
      have hg' : w.heap.size ≤ wb.heap.size := by omega
      clear ho hb hp hv hDl O3 G3 RX3 RX1 hgd hcd hmd
      go_wp2_with fail
      refine bodyPost_ret (v := .agg #[.slice (some ⟨gd, 0, none⟩) D.size cd, .int .i64 r]) (by simp [results, Tryd.results144, go_sem, HR4.out.c0, HR4.out.c1]) rfl ⟨D, r, HS.out, ⟨_, rfl, owns_base (World.ownsRow.alloc HO4.out _) hg', HV.out⟩, ((HB.out.setCell (p := ⟨w.heap.size, 0, none⟩) (Nat.le_refl _) _).setCell (p := ⟨w.heap.size, 1, none⟩) (Nat.le_refl _) _).alloc (by simp [World.setCell]; omega) _⟩
    · exfalso
      obtain ⟨d, r, h⟩ := HE.out
      exact hno d r h
end Go.Proofs.YtoiljohaicpncaaDoor
