
/- Cutting of texts by the model: l13Cut. -/
import Derived.Test.YtoiljohaicpncaaDoorKsNum
import Derived.Test.YtoiljohaicpncaaDoorKsSums
namespace Go.Proofs.YtoiljohaicpncaaDoor
open Go.RowKit Go.Shelf Go.Lib Go.Sort

/-- What l13Cut has behind i steps: the pieces, and where the next one begins. -/
def cutSt (s : ByteArray) (c : Nat) : Nat → List ByteArray × Nat
  | 0 => ([], 0)
  | i + 1 => if i = s.size ∨ byteN s i = c then ((cutSt s c i).1 ++ [s.extract (cutSt s c i).2 i], i + 1) else cutSt s c i
theorem cutSt_le (s : ByteArray) (c i : Nat) : (cutSt s c i).2 ≤ i ∧ (cutSt s c i).1.length ≤ i := by
  induction i with
  | zero => simp [cutSt]
  | succ i ih =>
    rw [cutSt]
    split
    · simp; omega
    · omega
def cutL (s : ByteArray) (c : Nat) : List ByteArray := (cutSt s c (s.size + 1)).1
def encT (z : ByteArray) : Value := .string z
theorem infoStr : (Tryd.prog.info? 9).map (fun i => (i.zero, i.size, i.bytes)) = some (some (.string ⟨#[]⟩), 1, 16) := by kernel_rfl

set_option maxRecDepth 2000000 in
set_option maxHeartbeats 2000000 in
theorem cut_any (s : ByteArray) (c : Nat) (hc : c < 256) (hs : s.size ≤ 2000000) (w : World) :
    Calls Tryd.prog 183 #[.string s, .int .u8 c] w fun x w' => ∃ v, x = .returned v ∧ w'.ownsRow w.heap.size 9 1 v (cutL s c).length ((cutL s c).map encT) ∧ RowKit.Below w.heap.size w w' := by
  have hb := Below.refl w.heap.size w
  have HB := Lib.hid hb
  clear hb
  obtain ⟨i0, hi, hi0, hi1, hi2⟩ := info_parts infoStr
  have hsi : (s.size : Int) ≤ 2000000 := by omega
  go_enter Tryd.func183, Tryd.ntmps183
  go_wp2_with fail
  go_loopw [5, 6, 7] (fun v f i wr => ∃ k : Nat, i = .int .i64 k ∧ k ≤ s.size + 1 ∧ f = .int .i64 ((cutSt s c k).2 : Nat) ∧ Hid (wr.ownsRow w.heap.size 9 1 v (cutSt s c k).1.length ((cutSt s c k).1.map encT)) ∧ Hid (RowKit.Below w.heap.size w wr) ∧ w.heap.size ≤ wr.heap.size) (fun _ _ i _ => s.size + 2 - (intOf i).toNat)
  case atStart => exact ⟨0, rfl, Nat.zero_le _, rfl, ⟨rfl, .inr ⟨w.heap.size, 0, #[], rfl, Nat.le_refl _, heap_alloc_new w _, Nat.le_refl _, Nat.zero_le _, rfl, rfl⟩⟩, HB.out.alloc (Nat.le_refl _) _, by simp⟩
  case round =>
    obtain ⟨k, rfl, hk, rfl, HOwn, HW, hw2⟩ := hrel
    have hle := cutSt_le s c k
    have HST := Lib.hid (show cutSt s c (k + 1) = if k = s.size ∨ byteN s k = c then ((cutSt s c k).1 ++ [s.extract (cutSt s c k).2 k], k + 1) else cutSt s c k from rfl)
    obtain ⟨st, hst⟩ : ∃ st, st = cutSt s c k := ⟨_, rfl⟩
    rw [← hst] at HST HOwn hle ⊢
    obtain ⟨l, f⟩ := st
    have HSE := Lib.hid hst
    clear hst
    simp only at HST HOwn hle ⊢
    by_cases hlt : k < s.size
    · have hbk := byteN_eq hlt
      have hfk : (f : Int) ≤ (k : Int) := by omega
      have hks : ((k : Int) == (s.size : Int)) = false := by simp; omega
      by_cases hcc : (byteN s k : Int) = (c : Int)
      · have hcb : ((byteN s k : Int) == (c : Int)) = true := by simp; omega
        have HS2 := Lib.hid (show cutSt s c (k + 1) = (l ++ [s.extract f k], k + 1) by rw [HST.out, if_pos (.inr (by omega))])
        go_wp2_with (at_builtin; refine wpList_append_own _ rfl _ _ 83 rfl w.heap.size 9 i0 (.string ⟨#[]⟩) 1 16 Tryd.underlying83 hi hi0 hi1 hi2 rfl (by decide) _ _ _ rfl (HOwn.out.alloc _) ⟨wr.heap.size, 0, none⟩ 1 1 [.string (s.extract f k)] rfl rfl ?c1 ?c2 ?c3 ?c4 ?c5 ?_)
        case c1 => intro j u hj; match j, hj with | 0, hj => simp at hj; subst hj; simp [Addr.add]
        case c2 => intro u hu; simp at hu; subst hu; rfl
        case c3 => unfold maxLen; omega
        case c4 => omega
        case c5 => simp; omega
        intro v' w5 hown5 hgrow _
        have HO5 := Lib.hid hown5
        have HW5 := Lib.hid ((HW.out.alloc hw2 _).grown hgrow (by simp; omega) (fun q hq => (HOwn.out.lt q hq).1))
        have hwz := HW5.out.size
        clear hown5 hgrow
        go_wp2_with fail
        go_roundw
        case rel => exact ⟨k + 1, by go_num, by omega, by rw [HS2.out]; go_num, Lib.hid (by rw [HS2.out]; simpa [encT] using HO5.out), HW5.out, hwz⟩
        case measure => simp [intOf]; omega
      · have hcb : ((byteN s k : Int) == (c : Int)) = false := by simp; omega
        have HS2 := Lib.hid (show cutSt s c (k + 1) = (l, f) by rw [HST.out, if_neg (by omega)])
        go_wp2_with fail
        go_roundw
        case rel => exact ⟨k + 1, by go_num, by omega, by rw [HS2.out], by rw [HS2.out]; exact HOwn, HW, hw2⟩
        case measure => simp [intOf]; omega
    · by_cases hke : k = s.size
      · have hfk : (f : Int) ≤ (s.size : Int) := by omega
        subst hke
        have HS2 := Lib.hid (show cutSt s c (s.size + 1) = (l ++ [s.extract f s.size], s.size + 1) by rw [HST.out, if_pos (.inl rfl)])
        go_wp2_with (at_builtin; refine wpList_append_own _ rfl _ _ 83 rfl w.heap.size 9 i0 (.string ⟨#[]⟩) 1 16 Tryd.underlying83 hi hi0 hi1 hi2 rfl (by decide) _ _ _ rfl (HOwn.out.alloc _) ⟨wr.heap.size, 0, none⟩ 1 1 [.string (s.extract f s.size)] rfl rfl ?c1 ?c2 ?c3 ?c4 ?c5 ?_)
        case c2 => rfl
        case c3 => unfold maxLen; omega
        case c4 => omega
        case c5 => omega
        intro v' w5 hown5 hgrow _
        have HO5 := Lib.hid hown5
        have HW5 := Lib.hid ((HW.out.alloc hw2 _).grown hgrow (by simp; omega) (fun q hq => (HOwn.out.lt q hq).1))
        have hwz := HW5.out.size
        clear hown5 hgrow
        go_wp2_with fail
        go_roundw
        case rel => exact ⟨s.size + 1, by go_num, by omega, by rw [HS2.out]; go_num, Lib.hid (by rw [HS2.out]; simpa [encT] using HO5.out), HW5.out, hwz⟩
        case measure => simp [intOf]
      · have hke2 : k = s.size + 1 := by omega
        subst hke2
        go_wp2_with fail
        go_ret
        have e : cutL s c = l := by rw [cutL, ← HSE.out]
        exact ⟨_, rfl, by rw [e]; exact HOwn.out, HW.out⟩
end Go.Proofs.YtoiljohaicpncaaDoor
