
/- Reading a tree, the model: a comparison. -/
import Derived.Test.YtndnbeijmhcepaaDoorKsTreeH
namespace Go.Proofs.YtndnbeijmhcepaaDoor
open Go.RowKit Go.Lib

/-- What reading one byte leaves. -/
def IsRel (s : ByteArray) (c : UInt8) (p : Nat) (b : Bool) (q : Nat) (d : Bool) : Prop :=
  (skL c (rest s p) = some (rest s (p + 1)) ∧ q = p + 1 ∧ d = b ∧ p < s.size) ∨ (skL c (rest s p) = none ∧ q = p ∧ d = true)
theorem IsRel.le {s : ByteArray} {c : UInt8} {p q : Nat} {b d : Bool} (h : IsRel s c p b q d) (hp : p ≤ s.size) : p ≤ q ∧ q ≤ s.size := by
  rcases h with ⟨_, rfl, _, h⟩ | ⟨_, rfl, _⟩
  · omega
  · omega
theorem is_any (R : Nat) (s : ByteArray) (p : Nat) (b : Bool) (c : UInt8) (hs : s.size ≤ 2000000) (hps : p ≤ s.size) (w : World) (hR : RdS w R s p b) :
    Calls Tryd.prog 78 #[.pointer (some ⟨R, 0, none⟩), .int .u8 c.toNat] w fun x w' => x = .returned (.tuple #[]) ∧ (∃ q d, RdS w' R s q d ∧ IsRel s c p b q d) ∧ w.grownBy w' (some R) := by
  cases h : skL c (rest s p) with
  | none =>
    refine (is_miss R s p b c h hs hps w hR).mono ?_
    rintro x w' ⟨rfl, h1, h2⟩
    exact ⟨rfl, ⟨p, true, h1, .inr ⟨h, rfl, rfl⟩⟩, h2⟩
  | some l =>
    have hp : p < s.size := by
      rcases Nat.lt_or_ge p s.size with h' | h'
      · exact h'
      · rw [rest_nil h'] at h; cases h
    have hl : l = rest s (p + 1) := by
      have := skL_some h
      rw [rest_cons hp] at this
      exact (List.cons.inj this).2.symm
    refine (is_hit R s p b c l h hs w hR).mono ?_
    rintro x w' ⟨rfl, h1, h2⟩
    exact ⟨rfl, ⟨p + 1, b, h1, .inl ⟨by rw [h, hl], rfl, rfl, hp⟩⟩, h2⟩

/-- How a comparison's reading is put together out of its parts'. -/
theorem node_sum (s : ByteArray) (p f : Nat) (p1 p3 p4 p5 p6 : Nat) (b1 b2 b3 b4 b5 b6 : Bool) (n : Int) (t1 t2 : TreeD) (hp : p < s.size) (ht : tgU s[p] = false)
    (h1 : IsRel s 40 p false p1 b1) (h2 : b2 = (b1 || !okD (dsL (rest s p1)))) (hn : okD (dsL (rest s p1)) = true → n = (valL (dsL (rest s p1)) : Nat))
    (o1 : Option (TreeD × List UInt8)) (ho1 : o1 = rdG nmL f (rest s (p1 + (dsL (rest s p1)).length))) (h3 : b3 = (b2 || o1.isNone)) (e3 : b3 = false → o1 = some (t1, rest s p3))
    (h4 : IsRel s 44 p3 b3 p4 b4) (o2 : Option (TreeD × List UInt8)) (ho2 : o2 = rdG nmL f (rest s p4)) (h5 : b5 = (b4 || o2.isNone)) (e5 : b5 = false → o2 = some (t2, rest s p5)) (h6 : IsRel s 41 p5 b5 p6 b6) :
    b6 = (false || (rdG nmL (f + 1) (rest s p)).isNone) ∧ (b6 = false → rdG nmL (f + 1) (rest s p) = some (.cmp n t1 t2, rest s p6)) := by
  have hgoal : (b6 = false ∧ rdG nmL (f + 1) (rest s p) = some (.cmp n t1 t2, rest s p6)) ∨ (b6 = true ∧ rdG nmL (f + 1) (rest s p) = none) := by
    rcases h1 with ⟨k1, rfl, rfl, _⟩ | ⟨k1, rfl, rfl⟩
    · have e0 : rest s p = 40 :: rest s (p + 1) := skL_some k1
      rw [e0]
      simp only [rdG, if_true]
      have hnm : nmL (rest s (p + 1)) = if okD (dsL (rest s (p + 1))) = true then some (((valL (dsL (rest s (p + 1))) : Nat) : Int), rest s (p + 1 + (dsL (rest s (p + 1))).length)) else none := by
        unfold nmL; split
        · simp only [rest, List.drop_drop]
        · rfl
      cases hok : okD (dsL (rest s (p + 1))) with
      | false =>
        rw [hnm, hok]
        rw [hok] at h2
        have d2 : b2 = true := by simp [h2]
        have d3 : b3 = true := by simp [h3, d2]
        have d4 : b4 = true := by rcases h4 with ⟨_, _, h, _⟩ | ⟨_, _, h⟩ <;> simp [h, d3]
        have d5 : b5 = true := by simp [h5, d4]
        have d6 : b6 = true := by rcases h6 with ⟨_, _, h, _⟩ | ⟨_, _, h⟩ <;> simp [h, d5]
        exact .inr ⟨d6, rfl⟩
      | true =>
        rw [hnm, hok]
        simp only [if_true]
        rw [hok] at h2
        have d2 : b2 = false := by simp [h2]
        cases hb3 : b3 with
        | true =>
          have d4 : b4 = true := by rcases h4 with ⟨_, _, h, _⟩ | ⟨_, _, h⟩ <;> simp [h, hb3]
          have d5 : b5 = true := by simp [h5, d4]
          have d6 : b6 = true := by rcases h6 with ⟨_, _, h, _⟩ | ⟨_, _, h⟩ <;> simp [h, d5]
          have : o1 = none := by rw [hb3, d2] at h3; simpa using h3.symm
          rw [← ho1, this]
          exact .inr ⟨d6, rfl⟩
        | false =>
          rw [← ho1, e3 hb3]
          simp only
          rcases h4 with ⟨k4, rfl, h4, _⟩ | ⟨k4, rfl, h4⟩
          · rw [k4]
            simp only
            rw [hb3] at h4
            rw [h4] at h5
            cases hb5 : b5 with
            | true =>
              have d6 : b6 = true := by rcases h6 with ⟨_, _, h, _⟩ | ⟨_, _, h⟩ <;> simp [h, hb5]
              have : o2 = none := by rw [hb5] at h5; simpa using h5.symm
              rw [← ho2, this]
              exact .inr ⟨d6, rfl⟩
            | false =>
              rw [← ho2, e5 hb5]
              simp only
              rcases h6 with ⟨k6, rfl, h6, _⟩ | ⟨k6, rfl, h6⟩
              · rw [k6, hn hok]
                exact .inl ⟨h6.trans hb5, rfl⟩
              · rw [k6]
                exact .inr ⟨h6, rfl⟩
          · rw [k4]
            have d5 : b5 = true := by simp [h5, h4]
            have d6 : b6 = true := by rcases h6 with ⟨_, _, h, _⟩ | ⟨_, _, h⟩ <;> simp [h, d5]
            exact .inr ⟨d6, rfl⟩
    · have e0 := rest_cons hp
      have hne : ¬ s[p1] = 40 := fun e => by rw [e0, e, skL_hit] at k1; cases k1
      rw [e0]
      simp only [rdG, if_neg hne, ht, Bool.false_eq_true, if_false]
      have d2 : b2 = true := by simp [h2]
      have d3 : b3 = true := by simp [h3, d2]
      have d4 : b4 = true := by rcases h4 with ⟨_, _, h, _⟩ | ⟨_, _, h⟩ <;> simp [h, d3]
      have d5 : b5 = true := by simp [h5, d4]
      have d6 : b6 = true := by rcases h6 with ⟨_, _, h, _⟩ | ⟨_, _, h⟩ <;> simp [h, d5]
      exact .inr ⟨d6, trivial⟩
  rcases hgoal with ⟨h, e⟩ | ⟨h, e⟩
  · rw [e]; exact ⟨by simpa using h, fun _ => rfl⟩
  · rw [e]; exact ⟨by simpa using h, fun h' => by rw [h] at h'; cases h'⟩
end Go.Proofs.YtndnbeijmhcepaaDoor
