/- Plain: a number that grows from each order to the next: the measure of a loop over all orders. -/
import Derived.Test.YthchhgjnelkmhaaDoorKsAdvP
namespace Go.Proofs.YthchhgjnelkmhaaDoor
open Go.RowKit Go.Shelf Go.Lib Go.Sort

def code (c : Array Int) : Nat → Nat
  | 0 => 0
  | k + 1 => code c k * 9 + (c[k]!).toNat
theorem code_lt {n : Nat} {c : Array Int} (h : OrdOK n c) (hn : n ≤ 8) : ∀ k, k ≤ n → code c k < 9 ^ k
  | 0, _ => by simp [code]
  | k + 1, hk => by
    have ih := code_lt h hn k (by omega)
    have hr := (h.2 k (by rw [h.1]; omega)).1
    simp only [code, Nat.pow_succ]
    omega
theorem code_same {a b : Array Int} : ∀ k, (∀ j, j < k → a[j]! = b[j]!) → code a k = code b k
  | 0, _ => rfl
  | k + 1, h => by
    simp only [code]
    rw [code_same k fun j hj => h j (by omega), h k (by omega)]
theorem code_mono {n : Nat} {a b : Array Int} (ha : OrdOK n a) (hb : OrdOK n b) (hn : n ≤ 8) (h : lexLt n a b) : code a n < code b n := by
  obtain ⟨k, hk, he, hlt⟩ := h
  have hx : ∀ m, k + 1 ≤ m → m ≤ n → code a m < code b m := by
    intro m
    induction m with
    | zero => intro h; omega
    | succ m ih =>
      intro h1 h2
      have ra := (ha.2 m (by rw [ha.1]; omega)).1
      have rb := (hb.2 m (by rw [hb.1]; omega)).1
      simp only [code]
      rcases Nat.lt_or_ge k m with h3 | h3
      · have := ih (by omega) (by omega)
        omega
      · obtain rfl : m = k := by omega
        rw [code_same m he]
        omega
  exact hx n (by omega) (Nat.le_refl n)
/-- What is left to do from an order on. -/
def leftOf (n : Nat) (c : Array Int) : Nat := 9 ^ n - code c n
theorem left_next {n : Nat} {c r : Array Int} (hc : OrdOK n c) (hn : n ≤ 8) (h : NextOf n c r) : leftOf n r < leftOf n c := by
  have h1 := code_mono hc h.ord hn h.lt
  have h2 := code_lt h.ord hn n (Nat.le_refl n)
  unfold leftOf
  omega
/-- The same, read from the box. -/
def leftBox (n g : Nat) (W : World) : Nat := match W.heap[g]? with
  | some (.cells cs _ _) => leftOf n (cs.map Lib.intOf)
  | _ => 0
theorem leftBox_box {n g : Nat} {W : World} {A : Array Int} (h : BoxN W g A) : leftBox n g W = leftOf n A := by
  have h' : W.heap[g]? = some (.cells (A.map encN) 3 (0, 0)) := h
  unfold leftBox
  rw [h']
  have e : (A.map encN).map Lib.intOf = A := by
    rw [Array.map_map]
    have : (Lib.intOf ∘ encN) = id := by funext x; rfl
    rw [this, Array.map_id]
  simp only [e]
/-- All orders that come before: the best of them; from one order to the next, and at the last. -/
def BestUpTo (d : Array CaseD) (rest : Int) (Q : Array Int → Prop) (s : Array Int) : Prop :=
  OrdOK d.size s ∧ ∀ p, OrdOK d.size p → Q p → costN d rest p < costN d rest s ∨ (costN d rest p = costN d rest s ∧ (s = p ∨ lexLt d.size s p))
theorem best_first {d : Array CaseD} {rest : Int} {c : Array Int} (hc : OrdOK d.size c) (hm : ∀ p, OrdOK d.size p → p = c ∨ lexLt d.size c p) : BestUpTo d rest (fun p => ¬ lexLt d.size c p) c :=
  ⟨hc, fun p hp hq => by
    rcases hm p hp with h | h
    · exact .inr ⟨by rw [h], .inl h.symm⟩
    · exact absurd h hq⟩
/-- A dearer one takes the place; one as dear or cheaper does not. -/
theorem best_step {d : Array CaseD} {rest : Int} {c r s : Array Int} (hc : OrdOK d.size c) (hN : NextOf d.size c r) (hs : BestUpTo d rest (fun p => ¬ lexLt d.size c p) s) (hsc : ¬ lexLt d.size c s) :
    BestUpTo d rest (fun p => ¬ lexLt d.size r p) (if costN d rest s < costN d rest r then r else s) := by
  have hcr := hN.lt
  by_cases h : costN d rest s < costN d rest r
  · rw [if_pos h]
    refine ⟨hN.ord, fun p hp hq => ?_⟩
    by_cases hl : lexLt d.size c p
    · rcases hN.lex hc hp hl with h2 | h2
      · exact .inr ⟨by rw [h2], .inl h2⟩
      · exact absurd h2 hq
    · rcases hs.2 p hp hl with h2 | ⟨h2, _⟩
      · exact .inl (by omega)
      · exact .inl (by omega)
  · rw [if_neg h]
    refine ⟨hs.1, fun p hp hq => ?_⟩
    by_cases hl : lexLt d.size c p
    · rcases hN.lex hc hp hl with h2 | h2
      · subst h2
        rcases Int.lt_trichotomy (costN d rest r) (costN d rest s) with h3 | h3 | h3
        · exact .inl h3
        · refine .inr ⟨h3, ?_⟩
          rcases first_diff hs.1.1 hN.ord.1 with h4 | ⟨k, hk, h4, h5⟩
          · exact .inl h4
          · rcases Int.lt_or_gt_of_ne h5 with h6 | h6
            · exact .inr ⟨k, hk, h4, h6⟩
            · exfalso
              have hrs : lexLt d.size r s := ⟨k, hk, fun j hj => (h4 j hj).symm, h6⟩
              obtain ⟨k1, e1, g1, l1⟩ := hcr
              rcases Nat.lt_trichotomy k1 k with h7 | h7 | h7
              · exact hsc ⟨k1, e1, fun j hj => (g1 j hj).trans (h4 j (by omega)).symm, by rw [h4 k1 h7]; exact l1⟩
              · subst h7
                exact hsc ⟨k1, e1, fun j hj => (g1 j hj).trans (h4 j hj).symm, by omega⟩
              · exact hsc ⟨k, hk, fun j hj => (g1 j (by omega)).trans (h4 j hj).symm, by rw [g1 k h7]; exact h6⟩
        · exact absurd h3 h
      · exact absurd h2 hq
    · exact hs.2 p hp hl
theorem lexLt_trans {n : Nat} {a b c : Array Int} (h : lexLt n a b) (h2 : lexLt n b c) : lexLt n a c := by
  obtain ⟨k, hk, he, hl⟩ := h
  obtain ⟨m, hm, he2, hl2⟩ := h2
  rcases Nat.lt_trichotomy k m with h3 | h3 | h3
  · exact ⟨k, hk, fun j hj => (he j hj).trans (he2 j (by omega)), by rw [← he2 k h3]; exact hl⟩
  · subst h3
    exact ⟨k, hk, fun j hj => (he j hj).trans (he2 j hj), Int.lt_trans hl hl2⟩
  · exact ⟨m, hm, fun j hj => (he j (by omega)).trans (he2 j hj), by rw [he m h3]; exact hl2⟩
theorem side_step {n : Nat} {c r s : Array Int} (hN : NextOf n c r) (hsc : ¬ lexLt n c s) (p : Prop) [Decidable p] : ¬ lexLt n r (if p then r else s) := by
  split
  · exact fun h => lexLt_irrefl h
  · exact fun h => hsc (lexLt_trans hN.lt h)
theorem best_last {d : Array CaseD} {rest : Int} {c s : Array Int} (hc : OrdOK d.size c) (hd : ∀ i j, i < j → j < d.size → c[j]! < c[i]!) (hs : BestUpTo d rest (fun p => ¬ lexLt d.size c p) s) : s = bestTo (slow d) d.size d.size :=
  worst_is hs.1 fun p hp => hs.2 p hp fun h => by
    rcases desc_last (k := 0) hc hp (fun j hj => absurd hj (Nat.not_lt_zero j)) (fun i j _ h1 h2 => hd i j h1 h2) with h2 | h2
    · subst h2; exact lexLt_irrefl h
    · exact lexLt_asymm h h2
end Go.Proofs.YthchhgjnelkmhaaDoor
