
/- Reading of numbers by the model: l13Num. · Reading of numbers by the model: l13Num of any text ends. · Cutting of texts by the model: l13Cut. -/
import Derived.Test.YtjpcpiffffobcaaGreatDoorKsLeaf
import Derived.LoopTactic
import Derived.Test.YtjpcpiffffobcaaGreatDoorKsSums
namespace Go.Proofs.YtjpcpiffffobcaaGreatDoor
open Go.RowKit Go.Lib

def byteN (s : ByteArray) (i : Nat) : Nat := (s.data[i]!).toNat
def dgB (s : ByteArray) (j : Nat) : Bool := decide (48 ≤ byteN s j) && decide (byteN s j ≤ 57)
def numTo (s : ByteArray) : Nat → Nat
  | 0 => 0
  | i + 1 => numTo s i * 10 + (byteN s i - 48)

theorem retNB {a c : Int} {b e : Bool} (h : a = c) (h2 : b = e) : Ending.returned (.tuple #[.int .i64 a, .bool b]) = .returned (.tuple #[.int .i64 c, .bool e]) := by rw [h, h2]

/-- Digits alone, none too many, no zero ahead: exact. -/
def plainB (s : ByteArray) : Prop := 0 < s.size ∧ s.size ≤ 17 ∧ (∀ j (h : j < s.size), 48 ≤ s[j].toNat ∧ s[j].toNat ≤ 57) ∧ (∀ h : 0 < s.size, s[0].toNat = 48 → s.size = 1)
theorem numTo_lt (s : ByteArray) (i : Nat) (h : ∀ j, j < i → byteN s j ≤ 57) : numTo s i < 10 ^ i := by
  induction i with
  | zero => simp [numTo]
  | succ i ih =>
    have h1 := ih fun j hj => h j (by omega)
    have h2 := h i (by omega)
    rw [numTo, Nat.pow_succ]
    omega
theorem byteN_eq {s : ByteArray} {i : Nat} (h : i < s.size) : s[i].toNat = byteN s i := by
  have h' : i < s.data.size := h
  rw [byteN, getElem!_pos s.data i h']
  rfl

set_option maxRecDepth 100000 in
set_option maxHeartbeats 2000000 in
theorem num_plain (s : ByteArray) (hs : plainB s) (w : World) :
    Calls Tryz.prog 117 #[.string s] w fun x w' => x = .returned (.tuple #[.int .i64 (numTo s s.size : Nat), .bool true]) ∧ w' = w := by
  obtain ⟨h0, h17, hd, hz⟩ := hs
  have hd0 := hd 0 h0
  have hne : ¬ (s[0].toNat : Int) = 45 := by omega
  have hz0 := hz h0
  have HD := Lib.hid hd
  clear hd hz
  have hcase : (¬ (s[0].toNat : Int) = 48) ∨ ((s[0].toNat : Int) = 48 ∧ (s.size : Int) ≤ 1) := by
    rcases Decidable.em (s[0].toNat = 48) with h | h
    · right; have := hz0 h; omega
    · left; omega
  clear hz0
  have h17i : (s.size : Int) ≤ 17 := by omega
  have hse : ¬ s = ByteArray.empty := by intro e; rw [e] at h0; simp at h0
  have hb1 : ((s.size : Int) == 0) = false := by simp; omega
  have hb2 : decide (17 < (s.size : Int)) = false := decide_eq_false (by omega)
  rcases hcase with hc | ⟨hc, hc1⟩
  all_goals
    go_enter Tryz.func117, Tryz.ntmps117
    go_wp2_with fail
    go_loopw [5, 6] (fun v i wr => ∃ k : Nat, i = .int .i64 k ∧ k ≤ s.size ∧ v = .int .i64 (numTo s k : Nat) ∧ wr = w) (fun _ i _ => s.size - (intOf i).toNat)
    case atStart => exact ⟨0, rfl, Nat.zero_le _, rfl, rfl⟩
    case round =>
      obtain ⟨k, rfl, hk, rfl, rfl⟩ := hrel
      by_cases hlt : k < s.size
      · have hdk := HD.out k hlt
        have hn1 : numTo s (k + 1) = numTo s k * 10 + (s[k].toNat - 48) := by rw [numTo, byteN_eq hlt]
        have hlim : numTo s k < 10 ^ 16 := Nat.lt_of_lt_of_le (numTo_lt s k fun j hj => by have := HD.out j (by omega); rw [byteN_eq (by omega)] at this; exact this.2) (Nat.pow_le_pow_right (by omega) (by omega))
        obtain ⟨nk, hnk⟩ : ∃ nk, nk = numTo s k := ⟨_, rfl⟩
        rw [← hnk] at hn1 hlim ⊢
        have HN1 := Lib.hid hn1
        clear hn1 hnk
        have hu : IntKind.u8.wrap ((s[k].toNat : Int) - 48) = (s[k].toNat : Int) - 48 := by rw [IntKind.wrap]; simp [IntKind.signed, IntKind.bits]; omega
        have hm1 : IntKind.i64.wrap ((nk : Int) * 10) = (nk : Int) * 10 := by rw [IntKind.wrap]; simp [IntKind.signed, IntKind.bits]; omega
        have hm2 : IntKind.i64.wrap ((nk : Int) * 10 + ((s[k].toNat : Int) - 48)) = (nk : Int) * 10 + ((s[k].toNat : Int) - 48) := by rw [IntKind.wrap]; simp [IntKind.signed, IntKind.bits]; omega
        go_wp2_with fail
        go_roundw
        case rel => exact ⟨k + 1, by go_num, by omega, by rw [HN1.out]; go_num, trivial⟩
        case measure => simp [intOf]; omega
      · have hke : k = s.size := by omega
        subst hke
        go_wp2_with fail
        go_ret2
        exact ⟨retNB rfl rfl, rfl⟩

end Go.Proofs.YtjpcpiffffobcaaGreatDoor

namespace Go.Proofs.YtjpcpiffffobcaaGreatDoor
open Go.RowKit Go.Lib

def IntV (v : Value) : Prop := ∃ z : Int, v = .int .i64 z
def NumRet (x : Ending) : Prop := ∃ (z : Int) (ok : Bool), x = .returned (.tuple #[.int .i64 z, .bool ok])
theorem NumRet.mk (z : Int) (ok : Bool) : NumRet (.returned (.tuple #[.int .i64 z, .bool ok])) := ⟨z, ok, rfl⟩

set_option maxRecDepth 2000000 in
set_option maxHeartbeats 4000000 in
/-- Of every text not too long: some number, some answer. -/
theorem num_safe (s : ByteArray) (hs : s.size ≤ 2000000) (w : World) :
    Calls Tryz.prog 117 #[.string s] w fun x w' => NumRet x ∧ w' = w := by
  have h17i : (s.size : Int) ≤ 2000000 := by omega
  by_cases h0 : s.size = 0
  · have he : s = ByteArray.empty := by
      obtain ⟨⟨l⟩⟩ := s
      match l, h0 with
      | [], _ => rfl
    subst he
    go_enter Tryz.func117, Tryz.ntmps117
    go_wp2_with fail
    go_ret2
    exact ⟨NumRet.mk _ _, rfl⟩
  have h00 : 0 < s.size := by omega
  go_enter Tryz.func117, Tryz.ntmps117
  go_wp2_with fail
  all_goals first
    | (go_ret2; exact ⟨NumRet.mk _ _, rfl⟩)
    | (show Code.wp _ _ _ _ _; skip)
  all_goals
    try simp only [*, Bool.false_or]
    go_loopw [5, 6] (fun v i wr => ∃ k : Nat, i = .int .i64 k ∧ k ≤ s.size ∧ IntV v ∧ wr = w) (fun _ i _ => s.size - (intOf i).toNat)
    case atStart => exact ⟨0, rfl, Nat.zero_le _, ⟨0, rfl⟩, rfl⟩
    case round =>
      obtain ⟨k, rfl, hk, ⟨z, rfl⟩, rfl⟩ := hrel
      go_wp2_with fail
      all_goals first
        | (go_ret2; exact ⟨NumRet.mk _ _, rfl⟩)
        | skip
      all_goals
        go_roundw
        case rel => exact ⟨k + 1, by go_num, by omega, ⟨_, rfl⟩, by first | rfl | trivial⟩
        case measure => simp [intOf]; omega
end Go.Proofs.YtjpcpiffffobcaaGreatDoor

namespace Go.Proofs.YtjpcpiffffobcaaGreatDoor
open Go.RowKit Go.Shelf Go.Lib Go.Sort

/-- What l13Cut has behind i steps: the pieces, and where the next one begins. -/
def cutSt (s : ByteArray) (c : Nat) : Nat → List ByteArray × Nat
  | 0 => ([], 0)
  | i + 1 => if i = s.size ∨ byteN s i = c then ((cutSt s c i).1 ++ [s.extract (cutSt s c i).2 i], i + 1) else cutSt s c i
theorem cutSt_le (s : ByteArray) (c i : Nat) : (cutSt s c i).2 ≤ i ∧ (cutSt s c i).1.length ≤ i := by
  induction i with
  | zero => simp [cutSt]
  | succ i ih =>
    rw [cutSt]
    split
    · simp; omega
    · omega
def cutL (s : ByteArray) (c : Nat) : List ByteArray := (cutSt s c (s.size + 1)).1
def encT (z : ByteArray) : Value := .string z
theorem infoStr : (Tryz.prog.info? 9).map (fun i => (i.zero, i.size, i.bytes)) = some (some (.string ⟨#[]⟩), 1, 16) := by kernel_rfl

set_option maxRecDepth 2000000 in
set_option maxHeartbeats 2000000 in
theorem cut_any (s : ByteArray) (c : Nat) (_ : c < 256) (hs : s.size ≤ 2000000) (w : World) :
    Calls Tryz.prog 115 #[.string s, .int .u8 c] w fun x w' => ∃ v, x = .returned v ∧ w'.ownsRow w.heap.size 9 1 v (cutL s c).length ((cutL s c).map encT) ∧ RowKit.Below w.heap.size w w' := by
  have hb := Below.refl w.heap.size w
  have HB := Lib.hid hb
  clear hb
  obtain ⟨i0, hi, hi0, hi1, hi2⟩ := info_parts infoStr
  have hsi : (s.size : Int) ≤ 2000000 := by omega
  go_enter Tryz.func115, Tryz.ntmps115
  go_wp2_with fail
  go_loopw [5, 6, 7] (fun v f i wr => ∃ k : Nat, i = .int .i64 k ∧ k ≤ s.size + 1 ∧ f = .int .i64 ((cutSt s c k).2 : Nat) ∧ Hid (wr.ownsRow w.heap.size 9 1 v (cutSt s c k).1.length ((cutSt s c k).1.map encT)) ∧ Hid (RowKit.Below w.heap.size w wr) ∧ w.heap.size ≤ wr.heap.size) (fun _ _ i _ => s.size + 2 - (intOf i).toNat)
  case atStart => exact ⟨0, rfl, Nat.zero_le _, rfl, ⟨rfl, .inr ⟨w.heap.size, 0, #[], rfl, Nat.le_refl _, heap_alloc_new w _, Nat.le_refl _, Nat.zero_le _, rfl, rfl⟩⟩, HB.out.alloc (Nat.le_refl _) _, by simp⟩
  case round =>
    obtain ⟨k, rfl, hk, rfl, HOwn, HW, hw2⟩ := hrel
    have hle := cutSt_le s c k
    have HST := Lib.hid (show cutSt s c (k + 1) = if k = s.size ∨ byteN s k = c then ((cutSt s c k).1 ++ [s.extract (cutSt s c k).2 k], k + 1) else cutSt s c k from rfl)
    obtain ⟨st, hst⟩ : ∃ st, st = cutSt s c k := ⟨_, rfl⟩
    rw [← hst] at HST HOwn hle ⊢
    obtain ⟨l, f⟩ := st
    have HSE := Lib.hid hst
    clear hst
    simp only at HST HOwn hle ⊢
    by_cases hlt : k < s.size
    · have hbk := byteN_eq hlt
      have hfk : (f : Int) ≤ (k : Int) := by omega
      have hks : ((k : Int) == (s.size : Int)) = false := by simp; omega
      by_cases hcc : (byteN s k : Int) = (c : Int)
      · have hcb : ((byteN s k : Int) == (c : Int)) = true := by simp; omega
        have HS2 := Lib.hid (show cutSt s c (k + 1) = (l ++ [s.extract f k], k + 1) by rw [HST.out, if_pos (.inr (by omega))])
        go_wp2_with (at_builtin; refine wpList_append_own _ rfl _ _ 93 rfl w.heap.size 9 i0 (.string ⟨#[]⟩) 1 16 Tryz.underlying93 hi hi0 hi1 hi2 rfl (by decide) _ _ _ rfl (HOwn.out.alloc _) ⟨wr.heap.size, 0, none⟩ 1 1 [.string (s.extract f k)] rfl rfl ?c1 ?c2 ?c3 ?c4 ?c5 ?_)
        case c1 => intro j u hj; match j, hj with | 0, hj => simp at hj; subst hj; simp [Addr.add]
        case c2 => intro u hu; simp at hu; subst hu; rfl
        case c3 => unfold maxLen; omega
        case c4 => omega
        case c5 => simp; omega
        intro v' w5 hown5 hgrow _
        have HO5 := Lib.hid hown5
        have HW5 := Lib.hid ((HW.out.alloc hw2 _).grown hgrow (by simp; omega) (fun q hq => (HOwn.out.lt q hq).1))
        have hwz := HW5.out.size
        clear hown5 hgrow
        go_wp2_with fail
        go_roundw
        case rel => exact ⟨k + 1, by go_num, by omega, by rw [HS2.out]; go_num, Lib.hid (by rw [HS2.out]; simpa [encT] using HO5.out), HW5.out, hwz⟩
        case measure => simp [intOf]; omega
      · have hcb : ((byteN s k : Int) == (c : Int)) = false := by simp; omega
        have HS2 := Lib.hid (show cutSt s c (k + 1) = (l, f) by rw [HST.out, if_neg (by omega)])
        go_wp2_with fail
        go_roundw
        case rel => exact ⟨k + 1, by go_num, by omega, by rw [HS2.out], by rw [HS2.out]; exact HOwn, HW, hw2⟩
        case measure => simp [intOf]; omega
    · by_cases hke : k = s.size
      · have hfk : (f : Int) ≤ (s.size : Int) := by omega
        subst hke
        have HS2 := Lib.hid (show cutSt s c (s.size + 1) = (l ++ [s.extract f s.size], s.size + 1) by rw [HST.out, if_pos (.inl rfl)])
        go_wp2_with (at_builtin; refine wpList_append_own _ rfl _ _ 93 rfl w.heap.size 9 i0 (.string ⟨#[]⟩) 1 16 Tryz.underlying93 hi hi0 hi1 hi2 rfl (by decide) _ _ _ rfl (HOwn.out.alloc _) ⟨wr.heap.size, 0, none⟩ 1 1 [.string (s.extract f s.size)] rfl rfl ?c1 ?c2 ?c3 ?c4 ?c5 ?_)
        case c2 => rfl
        case c3 => unfold maxLen; omega
        case c4 => omega
        case c5 => omega
        intro v' w5 hown5 hgrow _
        have HO5 := Lib.hid hown5
        have HW5 := Lib.hid ((HW.out.alloc hw2 _).grown hgrow (by simp; omega) (fun q hq => (HOwn.out.lt q hq).1))
        have hwz := HW5.out.size
        clear hown5 hgrow
        go_wp2_with fail
        go_roundw
        case rel => exact ⟨s.size + 1, by go_num, by omega, by rw [HS2.out]; go_num, Lib.hid (by rw [HS2.out]; simpa [encT] using HO5.out), HW5.out, hwz⟩
        case measure => simp [intOf]
      · have hke2 : k = s.size + 1 := by omega
        subst hke2
        go_wp2_with fail
        go_ret
        have e : cutL s c = l := by rw [cutL, ← HSE.out]
        exact ⟨_, rfl, by rw [e]; exact HOwn.out, HW.out⟩
end Go.Proofs.YtjpcpiffffobcaaGreatDoor
