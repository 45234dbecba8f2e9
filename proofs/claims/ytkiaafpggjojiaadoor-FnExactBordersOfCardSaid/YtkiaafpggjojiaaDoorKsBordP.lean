
/- The borders of a switch, plain: the lows of what neighbours with one target are put together to are the keys with another target than the one before. No walk. -/
import Derived.Test.YtkiaafpggjojiaaDoorKsMergeP
import Derived.Test.YtkiaafpggjojiaaDoorKsGoes
namespace Go.Proofs.YtkiaafpggjojiaaDoor
open Go.RowKit Go.Shelf Go.Lib Go.Sort

def bordB (d : Array CaseD) (k : Int) : Bool := !((goesN d k).toList == (goesN d (k - 1)).toList)
/-- The borders among the keys 1 to n. -/
def bordTo (d : Array CaseD) : Nat → List Int
  | 0 => []
  | n + 1 => bordTo d n ++ (if bordB d ((n + 1 : Nat) : Int) = true then [((n + 1 : Nat) : Int)] else [])
def lowsL (l : List CaseD) : List Int := (l.filter fun c => decide (0 < c.low)).map (·.low)
theorem lowsL_snoc (l : List CaseD) (c : CaseD) : lowsL (l ++ [c]) = lowsL l ++ (if 0 < c.low then [c.low] else []) := by
  unfold lowsL
  rw [List.filter_append, List.map_append]
  by_cases h : 0 < c.low <;> simp [h]
theorem lowsL_set : ∀ (l : List CaseD) (i : Nat) (c : CaseD), c.low = l[i]!.low → lowsL (l.set i c) = lowsL l
  | [], i, c, _ => by simp
  | x :: l, 0, c, h => by
    have h : c.low = x.low := by simpa using h
    simp only [lowsL, List.set_cons_zero, List.filter_cons, h]
    split <;> simp [h]
  | x :: l, i + 1, c, h => by
    have ih := lowsL_set l i c (by simpa using h)
    simp only [lowsL] at ih ⊢
    rw [List.set_cons_succ, List.filter_cons, List.filter_cons]
    split
    · simp only [List.map_cons, ih]
    · exact ih
theorem lowsL_len (l : List CaseD) : (lowsL l).length ≤ l.length := by
  unfold lowsL
  rw [List.length_map]
  exact List.length_filter_le _ _
theorem bordTo_len (d : Array CaseD) : ∀ n, (bordTo d n).length ≤ n
  | 0 => Nat.le_refl _
  | n + 1 => by
    have := bordTo_len d n
    rw [bordTo, List.length_append]
    split <;> simp <;> omega
theorem bordTo_same {d : Array CaseD} {a : Nat} : ∀ n, (∀ k : Nat, a < k → k ≤ a + n → bordB d (k : Int) = false) → bordTo d (a + n) = bordTo d a
  | 0, _ => rfl
  | n + 1, h => by
    have ih := bordTo_same n (fun k h1 h2 => h k h1 (by omega))
    show bordTo d ((a + n) + 1) = _
    rw [bordTo, h (a + n + 1) (by omega) (by omega), ih]
    simp
structure BInv (d m : Array CaseD) (e : Int) : Prop where
  pos : 1 ≤ e
  ne : 0 < m.size
  high : m[m.size - 1]!.high + 1 = e
  tg : m[m.size - 1]!.target.toList = (goesN d (e - 1)).toList
  lows : lowsL m.toList = bordTo d (e - 1).toNat
theorem bord_inside {d : Array CaseD} {c : CaseD} (hg : ∀ k, hasB c k = true → goesN d k = c.target) (h0 : 0 ≤ c.low) (hle : c.low ≤ c.high) : bordTo d c.high.toNat = bordTo d c.low.toNat := by
  have := bordTo_same (d := d) (a := c.low.toNat) (c.high.toNat - c.low.toNat) (fun k h1 h2 => by
    have e1 := hg k (by simp [hasB]; omega)
    have e2 := hg (k - 1) (by simp [hasB]; omega)
    simp [bordB, e1, e2])
  rwa [show c.low.toNat + (c.high.toNat - c.low.toNat) = c.high.toNat by omega] at this
theorem binv_step {d m : Array CaseD} {e : Int} {c : CaseD} (h : BInv d m e) (hc : c.low = e) (hle : c.low ≤ c.high) (hg : ∀ k, hasB c k = true → goesN d k = c.target) : BInv d (mstep adjB m c) (c.high + 1) := by
  have hp := h.pos
  have hne := h.ne
  have hin := bord_inside hg (by omega) hle
  have hlow := hg c.low (by simp [hasB]; omega)
  have hhigh := hg c.high (by simp [hasB]; omega)
  have hb : bordB d c.low = !(c.target.toList == m[m.size - 1]!.target.toList) := by
    unfold bordB
    rw [hlow, hc, h.tg]
  obtain ⟨n, hn⟩ : ∃ n, m.size = n + 1 := ⟨m.size - 1, by omega⟩
  have hn1 : m.size - 1 = n := by omega
  have hth := h.high
  rw [hn1] at hth hb
  have hadj : adjB m[n]! c = (c.target.toList == m[n]!.target.toList) := by
    unfold adjB
    rw [hc, ← hth]
    simp
  have hbt : bordTo d c.low.toNat = bordTo d (e - 1).toNat ++ (if bordB d c.low = true then [c.low] else []) := by
    have e1 : c.low.toNat = (e - 1).toNat + 1 := by omega
    rw [e1, bordTo]
    have e2 : (((e - 1).toNat + 1 : Nat) : Int) = c.low := by omega
    rw [e2]
  have hfin : (c.high + 1 - 1).toNat = c.high.toNat := by rw [Int.add_sub_cancel]
  cases hq : (c.target.toList == m[n]!.target.toList) with
  | true =>
    have e1 := mstep_join (j := adjB) (x := c) hn (hadj.trans hq)
    have hsz : (mstep adjB m c).size = n + 1 := by rw [e1]; simp [hn]
    have hget : (mstep adjB m c)[n]! = oneC m[n]! c := by rw [e1, getElem!_pos _ n (by simp [hn])]; simp
    refine ⟨by omega, by omega, ?_, ?_, ?_⟩
    · rw [hsz, Nat.add_sub_cancel, hget]; rfl
    · rw [hsz, Nat.add_sub_cancel, hget, Int.add_sub_cancel, hhigh]
      have := eq_of_beq hq
      exact this.symm
    · rw [hfin, hin, hbt, hb, hq, e1, Array.toList_setIfInBounds, lowsL_set _ _ _ (by show m[n]!.low = _; rw [getElem!_pos m n (by omega), getElem!_pos m.toList n (by simp; omega), Array.getElem_toList]), h.lows]
      simp
  | false =>
    have e1 := mstep_push (j := adjB) (x := c) hn (hadj.trans hq)
    have hsz : (mstep adjB m c).size = n + 2 := by rw [e1]; simp [hn]
    have hget : (mstep adjB m c)[n + 1]! = c := by rw [e1, getElem!_pos _ (n + 1) (by simp [hn])]; simp [← hn]
    refine ⟨by omega, by omega, ?_, ?_, ?_⟩
    · rw [hsz, show n + 2 - 1 = n + 1 from rfl, hget]
    · rw [hsz, show n + 2 - 1 = n + 1 from rfl, hget, Int.add_sub_cancel, hhigh]
    · rw [hfin, hin, hbt, hb, hq, e1, Array.toList_push, lowsL_snoc, h.lows, if_pos (by omega)]
      simp
theorem binv_fold {d : Array CaseD} : ∀ (l : List CaseD) (m : Array CaseD) (e : Int), BInv d m e → contL e l → (∀ c ∈ l, ∀ k, hasB c k = true → goesN d k = c.target) → BInv d (l.foldl (mstep adjB) m) (endL e l)
  | [], _, _, h, _, _ => h
  | c :: l, m, e, h, hc, hg => binv_fold l _ _ (binv_step h hc.1 hc.2.1 (hg c (by simp))) hc.2.2 (fun x hx => hg x (by simp [hx]))
theorem merged_is {d : Array CaseD} {rest : Int} (h : SwOK d rest) : BInv d (mergeA adjB (segs d rest)) 32 := by
  obtain ⟨hc, he⟩ := segs_cont h
  have hg : ∀ c ∈ segs d rest, ∀ k, hasB c k = true → goesN d k = c.target := fun c hc k hk => segs_target h c hc hk
  cases hs : segs d rest with
  | nil => rw [hs] at he; simp [endL] at he
  | cons c l =>
    rw [hs] at hc he hg
    have hgc := hg c (by simp)
    have hin := bord_inside hgc (by rw [hc.1]; exact Int.le_refl _) hc.2.1
    have h0 : BInv d #[c] (c.high + 1) := by
      refine ⟨by have := hc.1; have := hc.2.1; omega, by simp, by simp, ?_, ?_⟩
      · rw [Int.add_sub_cancel, hgc c.high (by simp [hasB]; exact hc.2.1)]; rfl
      · rw [Int.add_sub_cancel, hin, hc.1]
        have := hc.1
        simp [lowsL, bordTo, this]
    have := binv_fold l #[c] _ h0 hc.2.2 (fun x hx => hg x (by simp [hx]))
    have he' : endL (c.high + 1) l = 32 := he
    rw [he'] at this
    have e1 : mergeA adjB (c :: l) = l.foldl (mstep adjB) #[c] := by
      show l.foldl (mstep adjB) (mstep adjB #[] c) = _
      rw [mstep_first adjB c rfl]
      rfl
    rw [e1]
    exact this
theorem borders_is {d : Array CaseD} {rest : Int} (h : SwOK d rest) : lowsL (mergeA adjB (segs d rest)).toList = bordTo d 31 := (merged_is h).lows
theorem lowsL_take {l : List CaseD} {k : Nat} (h : k < l.length) : lowsL (l.take (k + 1)) = lowsL (l.take k) ++ (if 0 < l[k]!.low then [l[k]!.low] else []) := by
  rw [List.take_succ_eq_append_getElem h, lowsL_snoc, getElem!_pos l k h]
end Go.Proofs.YtkiaafpggjojiaaDoor
