
/- sum; how many keys have a case; all weights together: the program's and the model's. · impl.CountKeys and impl.TotalWeight; the model's TotalWeight. -/
import Derived.Test.YtjpcpiffffobcaaGreatDoorKsModel
namespace Go.Proofs.YtjpcpiffffobcaaGreatDoor
open Go.RowKit Go.Shelf Go.Lib Go.Sort

theorem bcell0 {W w1 : World} (hb : RowKit.Below W.heap.size W w1) : (∀ b o, b < W.heap.size → w1.cell? ⟨b, o, none⟩ = W.cell? ⟨b, o, none⟩) ∧ True :=
  ⟨fun b o h => hb.cell (p := ⟨b, o, none⟩) h, trivial⟩
def sumTo (e : Nat → Int) : Nat → Int
  | 0 => 0
  | k + 1 => sumTo e k + e k
theorem sumTo_le {e : Nat → Int} {n : Nat} (h : ∀ j, j < n → 0 ≤ e j ∧ e j ≤ 100) : ∀ k, k ≤ n → 0 ≤ sumTo e k ∧ sumTo e k ≤ 100 * k
  | 0, _ => by simp [sumTo]
  | k + 1, hk => by
    have := sumTo_le h k (by omega)
    have := h k (by omega)
    simp only [sumTo]
    omega
def intRow (e : Nat → Int) (n : Nat) : List Value := (List.range n).map fun j => Value.int .i64 (e j)
theorem intRow_get (e : Nat → Int) (n j : Nat) (hj : j < n) : (intRow e n)[j]? = some (.int .i64 (e j)) := by simp [intRow, hj]
theorem intRow_succ (e : Nat → Int) (n : Nat) : intRow e n ++ [.int .i64 (e n)] = intRow e (n + 1) := by simp [intRow, List.range_succ]
theorem retI {a b : Int} (h : a = b) : Ending.returned (.int .i64 a) = .returned (.int .i64 b) := by rw [h]

set_option maxRecDepth 100000 in
set_option maxHeartbeats 400000 in
theorem sum_row (e : Nat → Int) (n g cap : Nat) (w : World) (hc : ∀ j, j < n → w.cell? ⟨g, j, none⟩ = some (.int .i64 (e j))) (hn : n ≤ 9) (hb : ∀ j, j < n → 0 ≤ e j ∧ e j ≤ 100) :
    Calls Tryz.prog 166 #[.slice (some ⟨g, 0, none⟩) n cap] w fun x w' => x = .returned (.int .i64 (sumTo e n)) ∧ w = w' := by
  have HC := Lib.hid hc
  have HB := Lib.hid hb
  have hn' : (n : Int) ≤ 9 := by omega
  clear hc hb
  go_enter Tryz.func166, Tryz.ntmps166
  go_wp2
  go_loop [3, 5, 8] (fun t _ i => ∃ k : Nat, i = .int .i64 k ∧ k ≤ n ∧ t = .int .i64 (sumTo e k)) (fun _ _ i => n - (intOf i).toNat)
  case atStart => exact ⟨0, rfl, Nat.zero_le _, rfl⟩
  case round =>
    obtain ⟨k, rfl, hk, rfl⟩ := hrel
    by_cases hlt : k < n
    · have x0 := HC.out k hlt
      have hs := sumTo_le HB.out k hk
      have he := HB.out k hlt
      have HS := Lib.hid (show sumTo e (k + 1) = sumTo e k + e k from rfl)
      obtain ⟨s, hse⟩ : ∃ s, s = sumTo e k := ⟨_, rfl⟩
      obtain ⟨z, hze⟩ : ∃ z, z = e k := ⟨_, rfl⟩
      rw [← hse] at hs ⊢
      rw [← hze] at x0 he
      have SE := Lib.hid hse
      have ZE := Lib.hid hze
      clear hse hze
      obtain ⟨hs1, hs2⟩ := hs
      obtain ⟨he1, he2⟩ := he
      go_wp2
      go_round
      case rel => exact ⟨k + 1, by go_num, by omega, by rw [HS.out, SE.out, ZE.out]⟩
      case measure => simp [intOf]; omega
    · go_wp2
      go_ret
      exact ⟨retI (by rw [show k = n by omega]), rfl⟩

set_option maxHeartbeats 400000 in
theorem sum_nil (w : World) : Calls Tryz.prog 166 #[.slice none 0 0] w fun x w' => x = .returned (.int .i64 0) ∧ w = w' := by
  go_enter Tryz.func166, Tryz.ntmps166
  go_wp2
  refine wp_loop_rounds 1 ?_
  rw [rounds_succ]
  go_wp2
  go_ret
  exact ⟨rfl, rfl⟩

theorem sum_any (e : Nat → Int) (n base : Nat) (v : Value) (w : World) (ho : w.ownsRow base 3 1 v n (intRow e n)) (hn : n ≤ 9) (hb : ∀ j, j < n → 0 ≤ e j ∧ e j ≤ 100) :
    Calls Tryz.prog 166 #[v] w fun x w' => x = .returned (.int .i64 (sumTo e n)) ∧ w = w' := by
  rcases ho.2 with ⟨rfl, rfl⟩ | ⟨g, cap, cur, rfl, _⟩
  · exact sum_nil w
  · exact sum_row e n g cap w (fun j hj => (ho.cellAt j (by omega)).trans (intRow_get e n j hj)) hn hb

/-! the model's l1Keys -/
def keyW (d : Array CaseD) (j : Nat) : Int := d[j]!.high - d[j]!.low + 1
theorem keyW_le {d : Array CaseD} {rest : Int} (h : SwOK d rest) : ∀ j, j < d.size → 0 ≤ keyW d j ∧ keyW d j ≤ 100 := fun j hj => by
  have := caseB_le (h.case j hj)
  have := caseB_low (h.case j hj)
  have := caseB_high (h.case j hj)
  unfold keyW
  omega

noncomputable def keysN (d : Array CaseD) (rest : Int) : Int := if swB d rest = true then sumTo (keyW d) d.size else -1

end Go.Proofs.YtjpcpiffffobcaaGreatDoor

namespace Go.Proofs.YtjpcpiffffobcaaGreatDoor
open Go.RowKit Go.Shelf Go.Lib Go.Sort

theorem owns_below {w w' : World} {base size n : Nat} {e : TypeId} {v : Value} {xs : List Value} (h : w.ownsRow base e size v n xs) (hb : RowKit.Below w.heap.size w w') : w'.ownsRow base e size v n xs := by
  refine ⟨h.1, ?_⟩
  rcases h.2 with h2 | ⟨g, cap, cur, h3, h4, h5, h6⟩
  · exact .inl h2
  · exact .inr ⟨g, cap, cur, h3, h4, (hb.block g (Array.getElem?_eq_some_iff.1 h5).1).trans h5, h6⟩
theorem info3 : (Tryz.prog.info? 3).map (fun i => (i.zero, i.size, i.bytes)) = some (some (.int .i64 0), 1, 8) := by kernel_rfl

set_option maxRecDepth 100000 in
set_option maxHeartbeats 2000000 in
theorem implKeys_any (b off cap : Nat) (d : Array CaseD) (rest : Int) (w : World) (hR : RowC w b off d) (hE : ErrAt w) (hcap : d.size ≤ cap) (hmax : cap ≤ maxLen) :
    Calls Tryz.prog 162 #[.agg #[.slice (some ⟨b, off, none⟩) d.size cap, .int .i64 rest]] w fun x w' => x = .returned (.int .i64 (keysN d rest)) ∧ RowKit.Below w.heap.size w w' := by
  have hv := fun W (hW : RowKit.Below w.heap.size w W) => switchValid_any b off cap d rest W (hR.below hW) (hE.below hW) hcap hmax
  have HR := Lib.hid hR
  obtain ⟨wa, hwa⟩ : ∃ wa, wa = w.alloc (.cells #[.slice (some ⟨b, off, none⟩) d.size cap, .int .i64 rest] 32) := ⟨_, rfl⟩
  have c0 : wa.cell? ⟨w.heap.size, 0, none⟩ = some (.slice (some ⟨b, off, none⟩) d.size cap) := by rw [hwa]; simp
  have c1 : wa.cell? ⟨w.heap.size, 1, none⟩ = some (.int .i64 rest) := by rw [hwa]; simp
  have hz : w.heap.size < wa.heap.size := by rw [hwa]; simp
  have hba : RowKit.Below w.heap.size w wa := by rw [hwa]; exact (Below.refl _ _).alloc (Nat.le_refl _) _
  have HA := Lib.hid hba
  have C0 := Lib.hid c0
  have C1 := Lib.hid c1
  have HWA := Lib.hid hwa
  clear hba c0 c1 hwa hR hE
  cases hs : swB d rest
  all_goals
    simp only [hs] at hv
    have HV := Lib.hid hv
    have HS := Lib.hid hs
    clear hv hs
    go_enter Tryz.func162, Tryz.ntmps162
    go_wp2_with fail
    rw [← HWA.out]
    refine (HV.out _ HA.out).mono ?_
    rintro x w1 ⟨rfl, hb⟩
    have HB := Lib.hid hb
    have hz1 := hb.size
    have a0 := (hb.cell (p := ⟨w.heap.size, 0, none⟩) hz).trans C0.out
    have a1 := (hb.cell (p := ⟨w.heap.size, 1, none⟩) hz).trans C1.out
    clear hb
    go_wp2_with fail
  · go_ret
    exact ⟨retI (by rw [keysN, if_neg (by rw [HS.out]; exact Bool.false_ne_true)]), HA.out.trans (HB.out.mono (by omega))⟩
  · have HO := Lib.hid ((swB_iff _ _).1 HS.out)
    have h8 : (d.size : Int) ≤ 8 := by have := HO.out.size; omega
    have h8n : d.size ≤ 8 := HO.out.size
    obtain ⟨i0, hi, hi0, hi1, hi2⟩ := info_parts info3
    clear a0 a1
    go_loopw [3, 12] (fun v i wr => ∃ k : Nat, i = .int .i64 k ∧ k ≤ d.size ∧ Hid (wr.ownsRow wa.heap.size 3 1 v k (intRow (keyW d) k)) ∧ Hid (RowKit.Below wa.heap.size wa wr) ∧ wa.heap.size ≤ wr.heap.size) (fun _ i _ => d.size - (intOf i).toNat)
    case atStart => exact ⟨0, rfl, Nat.zero_le _, ⟨rfl, .inl ⟨rfl, rfl⟩⟩, HB.out, hz1⟩
    case round =>
      obtain ⟨k, rfl, hk, HOwn, HW, hw2⟩ := hrel
      have HWW := Lib.hid (HA.out.trans (HW.out.mono (by omega)))
      by_cases hlt : k < d.size
      · have hx := HR.out.below HWW.out
        have x0 := hx.low k hlt
        have x1 := hx.high k hlt
        have x2 := hx.target k hlt
        have x3 := hx.weight k hlt
        have l1 := caseB_low (HO.out.case k hlt)
        have l2 := caseB_high (HO.out.case k hlt)
        clear hx
        obtain ⟨x, hxe⟩ : ∃ x, x = d[k]! := ⟨_, rfl⟩
        rw [← hxe] at x0 x1 x2 x3 l1 l2
        have HKW := Lib.hid (show keyW d k = x.high - x.low + 1 by rw [keyW, ← hxe])
        clear hxe
        have hcall := Lib.hid (fun W => width_any x W l1.1 l1.2 l2.1 l2.2)
        clear l1 l2
        obtain ⟨z, hzz⟩ : ∃ z, z = x.high - x.low + 1 := ⟨_, rfl⟩
        rw [← hzz] at hcall HKW
        clear hzz
        go_wp2_with (first
          | (go_at_call 154; refine (hcall.out _).mono ?_; rintro y w2 ⟨rfl, hb2⟩; have hb3 := Lib.hid (((Below.refl wr.heap.size wr).alloc (Nat.le_refl _) (.cells #[.int .i64 x.low, .int .i64 x.high, .string x.target, .int .i64 x.weight] 67)).trans (hb2.mono (by simp))); have HO2 := Lib.hid (owns_below HOwn.out hb3.out); have hz3 := hb3.out.size; clear hb2)
          | (at_builtin; refine wpList_append_own _ rfl _ _ 84 rfl wa.heap.size 3 i0 (.int .i64 0) 1 8 Tryz.underlying84 hi hi0 hi1 hi2 rfl (by decide) _ _ _ rfl (HO2.out.alloc _) ⟨w2.heap.size, 0, none⟩ 1 1 [.int .i64 z] rfl rfl ?c1 ?c2 ?c3 ?c4 ?c5 ?_))
        case c1 => intro j u hj; match j, hj with | 0, hj => simp at hj; subst hj; simp [Addr.add]
        case c2 => intro u hu; simp at hu; subst hu; rfl
        case c3 => unfold maxLen; omega
        case c4 => omega
        case c5 => simp; omega
        intro v' w3 hown3 hgrow _
        rw [← HKW.out, intRow_succ] at hown3
        have HO3 := Lib.hid hown3
        have hb4 : RowKit.Below wa.heap.size wa w3 := ((HW.out.trans (hb3.out.mono hw2)).alloc (by omega) _).grown hgrow (by simp; omega) (fun q hq => (HO2.out.lt q hq).1)
        have HW4 := Lib.hid hb4
        have hz4 := hb4.size
        clear hown3 hgrow hb4
        go_wp2
        go_roundw
        case rel => exact ⟨k + 1, by go_num, by omega, HO3.out, HW4.out, hz4⟩
        case measure => simp [intOf]; omega
      · have hke : k = d.size := by omega
        have HS1 := Lib.hid (sum_any (keyW d) k wa.heap.size _ wr HOwn.out (by omega) (fun j hj => keyW_le HO.out j (by omega)))
        go_wp2_with (go_at_call 166; refine HS1.out.mono ?_; rintro y w2 ⟨rfl, rfl⟩)
        go_ret
        exact ⟨retI (by rw [keysN, if_pos HS.out]), HWW.out⟩

/-! TotalWeight -/
theorem owns_first (w1 : World) (base : Nat) (hb : base ≤ w1.heap.size) (x : Int) (e : Nat → Int) (he : e 0 = x) :
    (w1.alloc (.cells #[.int .i64 x] 3)).ownsRow base 3 1 (.slice (some ⟨w1.heap.size, 0, none⟩) 1 1) 1 (intRow e 1) := by
  subst he
  exact ⟨rfl, .inr ⟨w1.heap.size, 1, #[.int .i64 (e 0)], rfl, hb, (show (w1.heap.push _)[w1.heap.size]? = _ by simp), Nat.le_refl _, by unfold maxLen; omega, rfl, rfl⟩⟩
def wgtW (d : Array CaseD) (rest : Int) : Nat → Int
  | 0 => rest
  | j + 1 => d[j]!.weight
theorem wgtW_le {d : Array CaseD} {rest : Int} (h : SwOK d rest) : ∀ j, j < d.size + 1 → 0 ≤ wgtW d rest j ∧ wgtW d rest j ≤ 100
  | 0, _ => by have := h.rest; simp [wgtB] at this; simp only [wgtW]; omega
  | j + 1, hj => by have := caseB_weight (h.case j (by omega)); simp only [wgtW]; omega
noncomputable def weightN (d : Array CaseD) (rest : Int) : Int := if swB d rest = true then sumTo (wgtW d rest) (d.size + 1) else -1

end Go.Proofs.YtjpcpiffffobcaaGreatDoor
