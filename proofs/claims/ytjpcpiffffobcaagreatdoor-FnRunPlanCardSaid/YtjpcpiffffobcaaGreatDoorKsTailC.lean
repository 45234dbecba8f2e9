
/- The best plan, plain: prices from each case on, the last case of its first cluster. A block of integers by a function. No walk but of the block. · The best plan of the program: tails. -/
import Derived.Test.YtjpcpiffffobcaaGreatDoorKsPri
import Derived.Test.YtjpcpiffffobcaaGreatDoorKsCheap
import Derived.Test.YtjpcpiffffobcaaGreatDoorKsSteps
import Derived.Deep.RegionHeld3
import Derived.Deep.DeepCutAuto
namespace Go.Proofs.YtjpcpiffffobcaaGreatDoor
open Go.RowKit Go.Shelf Go.Lib Go.Sort

theorem bestP8_in {e : Array CaseD} {r : Int} (h : SwOK e r) (h0 : 0 < e.size) : 1 ≤ bestP8 e ∧ bestP8 e ≤ 18 := by
  have ht := tableE_in h h0
  have h2 : (bestTo8 e 2).2 ≠ -1 := by
    show (if priceE e 1 ≠ -1 ∧ ((bestTo8 e 1).2 = -1 ∨ priceE e 1 < (bestTo8 e 1).2) then (nameK 1, priceE e 1) else bestTo8 e 1).2 ≠ -1
    have hp : priceE e 1 = tableE e := rfl
    split
    · show priceE e 1 ≠ -1
      omega
    · next hc =>
      intro h3
      exact hc ⟨by omega, .inl h3⟩
  have h3 : bestP8 e ≠ -1 := by
    show (if priceE e 2 ≠ -1 ∧ ((bestTo8 e 2).2 = -1 ∨ priceE e 2 < (bestTo8 e 2).2) then (nameK 2, priceE e 2) else bestTo8 e 2).2 ≠ -1
    split
    · next hc => exact hc.1
    · exact h2
  have := bestTo8_or h h0 3
  have e3 : (bestTo8 e 3).2 = bestP8 e := rfl
  rw [e3] at this
  omega
abbrev TF8 := Nat → Int × Nat
def costK (d : Array CaseD) (F : TF8) (i k : Nat) : Int := bestP8 (subD d i k) + (if k + 1 < d.size then 2 + (F (k + 1)).1 else 0)
def candT (d : Array CaseD) (F : TF8) (i : Nat) : Nat → Int × Nat
  | 0 => (-1, 0)
  | t + 1 => if (candT d F i t).1 < 0 ∨ costK d F i (i + t) < (candT d F i t).1 then (costK d F i (i + t), i + t) else candT d F i t
def stepT (d : Array CaseD) (F : TF8) (i : Nat) : TF8 := fun j => if j = i then candT d F i (d.size - i) else F j
def tabT (d : Array CaseD) : Nat → TF8
  | 0 => fun _ => (0, 0)
  | m + 1 => stepT d (tabT d m) (d.size - 1 - m)
/-- What is known of the table behind m steps. -/
def TabOK (d : Array CaseD) (m : Nat) (F : TF8) : Prop := (∀ j, d.size ≤ j → (F j).1 = 0) ∧ ∀ j, d.size ≤ j + m → j < d.size → (1 ≤ (F j).1 ∧ (F j).1 ≤ 20 * ((d.size : Int) - j)) ∧ j ≤ (F j).2 ∧ (F j).2 < d.size
theorem costK_in {d : Array CaseD} {rest : Int} (hok : SwOK d rest) {m : Nat} {F : TF8} (h : TabOK d m F) {i k : Nat} (hi : d.size ≤ i + m + 1) (hik : i ≤ k) (hk : k < d.size) : 1 ≤ costK d F i k ∧ costK d F i k ≤ 20 * ((d.size : Int) - i) := by
  have hb := bestP8_in (hok.sub (i := i) hk) (by rw [subD_size hk]; omega)
  unfold costK
  split
  · next h2 =>
    have := (h.2 (k + 1) (by omega) h2).1
    omega
  · omega
theorem candT_in {d : Array CaseD} {rest : Int} (hok : SwOK d rest) {m : Nat} {F : TF8} (h : TabOK d m F) {i : Nat} (hi : d.size ≤ i + m + 1) : ∀ t, i + t < d.size → (1 ≤ (candT d F i (t + 1)).1 ∧ (candT d F i (t + 1)).1 ≤ 20 * ((d.size : Int) - i)) ∧ i ≤ (candT d F i (t + 1)).2 ∧ (candT d F i (t + 1)).2 < d.size
  | 0, ht => by
    have a := costK_in hok h hi (k := i + 0) (by omega) ht
    rw [candT, if_pos (.inl (by show (-1 : Int) < 0; omega))]
    exact ⟨a, by show i ≤ i + 0; omega, ht⟩
  | t + 1, ht => by
    have a := costK_in hok h hi (k := i + (t + 1)) (by omega) ht
    have b := candT_in hok h hi t (by omega)
    rw [candT]
    split
    · exact ⟨a, by show i ≤ i + (t + 1); omega, ht⟩
    · exact b
theorem tabT_ok {d : Array CaseD} {rest : Int} (hok : SwOK d rest) : ∀ m, m ≤ d.size → TabOK d m (tabT d m)
  | 0, _ => ⟨fun _ _ => rfl, fun j h1 h2 => by omega⟩
  | m + 1, hm => by
    have ih := tabT_ok hok m (by omega)
    have hi : d.size ≤ (d.size - 1 - m) + m + 1 := by omega
    refine ⟨fun j hj => ?_, fun j h1 h2 => ?_⟩
    · show (if j = d.size - 1 - m then _ else tabT d m j).1 = 0
      rw [if_neg (by omega)]
      exact ih.1 j hj
    · by_cases e : j = d.size - 1 - m
      · have hc := candT_in hok ih hi (d.size - (d.size - 1 - m) - 1) (by omega)
        have e2 : d.size - (d.size - 1 - m) - 1 + 1 = d.size - (d.size - 1 - m) := by omega
        rw [e2] at hc
        have e3 : tabT d (m + 1) j = candT d (tabT d m) (d.size - 1 - m) (d.size - (d.size - 1 - m)) := if_pos e
        rw [e3, e]
        exact hc
      · have e3 : tabT d (m + 1) j = tabT d m j := if_neg e
        rw [e3]
        exact ih.2 j (by omega) h2
/-- The plan from the i-th case on. -/
def planL (d : Array CaseD) (F : TF8) : Nat → Nat → List (Nat × Nat × ByteArray)
  | 0, _ => []
  | f + 1, i => if i < d.size then (i, (F i).2, bestN8 (subD d i (F i).2)) :: planL d F f ((F i).2 + 1) else []

/-- A block of integers by a function. -/
structure BoxF (w : World) (g n : Nat) (f : Nat → Int) : Prop where
  lt : g < w.heap.size
  cell : ∀ j, j < n → w.cell? ⟨g, j, none⟩ = some (.int .i64 (f j))
  froz : ∀ j, w.frozen? ⟨g, j, none⟩ = false
def updF (f : Nat → Int) (i : Nat) (x : Int) : Nat → Int := fun j => if j = i then x else f j
theorem BoxF.below {w w' : World} {g n : Nat} {f : Nat → Int} (h : BoxF w g n f) (hb : RowKit.Below w.heap.size w w') : BoxF w' g n f :=
  ⟨Nat.lt_of_lt_of_le h.lt hb.size, fun j hj => (hb.cell (p := ⟨g, j, none⟩) h.lt).trans (h.cell j hj), fun j => (hb.frozen (p := ⟨g, j, none⟩) h.lt).trans (h.froz j)⟩
theorem BoxF.set {w : World} {g n : Nat} {f : Nat → Int} (h : BoxF w g n f) {i : Nat} (hi : i < n) (x : Int) : BoxF (w.setCell ⟨g, i, none⟩ (.int .i64 x)) g n (updF f i x) :=
  ⟨by simpa [World.setCell] using h.lt, fun j hj => by
    by_cases e : j = i
    · subst e
      rw [World.cell?_setCell_same _ _ _ (h.cell j hj)]
      simp [updF]
    · rw [World.cell?_setCell_other _ _ _ _ (fun e2 => e (by cases e2; rfl)), h.cell j hj]
      simp [updF, e], fun j => by rw [World.frozen?_setCell]; exact h.froz j⟩
theorem BoxF.other {w : World} {g n : Nat} {f : Nat → Int} (h : BoxF w g n f) {b o : Nat} (hb : b ≠ g) (v : Value) : BoxF (w.setCell ⟨b, o, none⟩ v) g n f :=
  ⟨by simpa [World.setCell] using h.lt, fun j hj => by rw [World.cell?_setCell_other _ _ _ _ (fun e2 => hb (by cases e2; rfl)), h.cell j hj], fun j => by rw [World.frozen?_setCell]; exact h.froz j⟩
theorem BoxF.congr {w : World} {g n : Nat} {f f' : Nat → Int} (h : BoxF w g n f) (he : ∀ j, j < n → f' j = f j) : BoxF w g n f' :=
  ⟨h.lt, fun j hj => by rw [he j hj]; exact h.cell j hj, h.froz⟩
end Go.Proofs.YtjpcpiffffobcaaGreatDoor

namespace Go.Proofs.YtjpcpiffffobcaaGreatDoor
open Go.RowKit Go.Shelf Go.Lib Go.Sort

/-! the table behind all steps -/
abbrev finT (d : Array CaseD) : TF8 := tabT d d.size
theorem tabT_more {d : Array CaseD} {m j : Nat} (hj : d.size ≤ j + m) : ∀ q, m + q ≤ d.size → tabT d (m + q) j = tabT d m j
  | 0, _ => rfl
  | q + 1, h => by
    have e : tabT d (m + q + 1) j = tabT d (m + q) j := if_neg (by omega)
    show tabT d (m + q + 1) j = _
    rw [e]
    exact tabT_more hj q (by omega)
theorem tabT_fin {d : Array CaseD} {m j : Nat} (hm : m ≤ d.size) (hj : d.size ≤ j + m) : finT d j = tabT d m j := by
  have := tabT_more hj (d.size - m) (by omega)
  rwa [show m + (d.size - m) = d.size by omega] at this
theorem costK_fin {d : Array CaseD} {m i k : Nat} (hm : m ≤ d.size) (hi : d.size ≤ i + m + 1) (hik : i ≤ k) : costK d (tabT d m) i k = costK d (finT d) i k := by
  unfold costK
  split
  · rw [tabT_fin hm (show d.size ≤ k + 1 + m by omega)]
  · rfl
theorem candT_fin {d : Array CaseD} {m i : Nat} (hm : m ≤ d.size) (hi : d.size ≤ i + m + 1) : ∀ t, candT d (tabT d m) i t = candT d (finT d) i t
  | 0 => rfl
  | t + 1 => by
    rw [candT, candT, candT_fin hm hi t, costK_fin hm hi (by omega)]
theorem fin_step {d : Array CaseD} {i : Nat} (hi : i < d.size) : finT d i = candT d (finT d) i (d.size - i) := by
  have h1 := tabT_fin (d := d) (m := d.size - 1 - i + 1) (j := i) (by omega) (by omega)
  have h2 : tabT d (d.size - 1 - i + 1) i = candT d (tabT d (d.size - 1 - i)) (d.size - 1 - (d.size - 1 - i)) (d.size - (d.size - 1 - (d.size - 1 - i))) := if_pos (by omega)
  rw [h1, h2, show d.size - 1 - (d.size - 1 - i) = i by omega]
  exact candT_fin (by omega) (by omega) _
/-- The plan from the i-th case on. -/
abbrev finL (d : Array CaseD) (i : Nat) : List (Nat × Nat × ByteArray) := planL d (finT d) (d.size - i) i
theorem planL_fuel {d : Array CaseD} {rest : Int} (hok : SwOK d rest) : ∀ f i, d.size ≤ i + f → planL d (finT d) f i = finL d i
  | 0, i, h => by
    have : d.size - i = 0 := by omega
    show [] = planL d (finT d) (d.size - i) i
    rw [this]
    rfl
  | f + 1, i, h => by
    by_cases hi : i < d.size
    · have hb : i ≤ (finT d i).2 ∧ (finT d i).2 < d.size := ((tabT_ok hok d.size (Nat.le_refl _)).2 i (by omega) hi).2
      obtain ⟨g, hg⟩ : ∃ g, d.size - i = g + 1 := ⟨d.size - i - 1, by omega⟩
      show planL d (finT d) (f + 1) i = planL d (finT d) (d.size - i) i
      rw [hg, planL, planL, if_pos hi, if_pos hi]
      rw [planL_fuel hok f _ (by omega), planL_fuel hok g _ (by omega)]
    · have e : d.size - i = 0 := by omega
      show planL d (finT d) (f + 1) i = planL d (finT d) (d.size - i) i
      rw [planL, if_neg hi, e]
      rfl
theorem finL_cons {d : Array CaseD} {rest : Int} (hok : SwOK d rest) {i : Nat} (hi : i < d.size) : finL d i = (i, (finT d i).2, bestN8 (subD d i (finT d i).2)) :: finL d ((finT d i).2 + 1) := by
  have hb : i ≤ (finT d i).2 ∧ (finT d i).2 < d.size := ((tabT_ok hok d.size (Nat.le_refl _)).2 i (by omega) hi).2
  obtain ⟨g, hg⟩ : ∃ g, d.size - i = g + 1 := ⟨d.size - i - 1, by omega⟩
  show planL d (finT d) (d.size - i) i = _
  rw [hg, planL, if_pos hi, planL_fuel hok g _ (by omega)]
theorem finL_end {d : Array CaseD} {i : Nat} (hi : d.size ≤ i) : finL d i = [] := by
  show planL d (finT d) (d.size - i) i = _
  rw [show d.size - i = 0 by omega]
  rfl
theorem planL_len {d : Array CaseD} {F : TF8} : ∀ f i, (planL d F f i).length ≤ f
  | 0, _ => Nat.le_refl _
  | f + 1, i => by
    rw [planL]
    split
    · have := planL_len (d := d) (F := F) f ((F i).2 + 1)
      rw [List.length_cons]
      omega
    · simp
def cellsQ (c : Nat × Nat × ByteArray) : List Value := [.int .i64 c.1, .int .i64 c.2.1, .string c.2.2]
def flatQ (l : List (Nat × Nat × ByteArray)) : List Value := l.flatMap cellsQ
theorem flatQ_cons (c : Nat × Nat × ByteArray) (l : List (Nat × Nat × ByteArray)) : flatQ (c :: l) = cellsQ c ++ flatQ l := rfl

/-- A call of a function value, as one step of a region that draws its order. -/
theorem step_callv {P : Program} {ops : Array Oper} {o : Oper} {a : Act} {K : Act → World → Prop} {Q : Exit → Act → World → Prop} {E : Prop} (w : World) (hgd : o.guard = none) (q : Nat) (x : Operand) (t : TypeId)
    (ho : o.op = .call { callee := .value (.tmp q), args := #[x], argTypes := #[t] }) (g : FuncId) (caps : Array Value) (hf : a.tmps[q]?.getD undef = .func (.func g) #[] caps) (he : ∀ args w, (callFunc g args).run P w = .ok (.enter g args) w) (v : Value) (hx : a.eval x = v)
    (hc : Calls P g (#[v] ++ caps) w fun e w' => ∃ u, e = .returned u ∧ K (a.put o.dst u) w') :
    if Region.wanted o (yielded ops a.tmps) = true then Oper.wp P o a w K Q else E := by
  have hw : Region.wanted o (yielded ops a.tmps) = true := by simp [Region.wanted, hgd]
  rw [if_pos hw]
  unfold Oper.wp execOp
  simp only [ho]
  have h2 := he (#[v] ++ caps) w
  have hr : Sem.run P (do
        let d ← resolve a.eval { callee := Callee.value (Operand.tmp q), args := #[x], argTypes := #[t] } o.type
        invoke d.target d.args) w = .ok (.enter g (#[v] ++ caps)) w := by
    subst hx
    simp [resolve, invoke, go_sem, hf]
    exact he _ w
  rw [hr, Oper.upon_enter]
  refine hc.mono ?_
  rintro e w' ⟨u, rfl, hK⟩
  exact hK
/-- A function that puts a list of clusters behind what it is given. -/
def PutAt (lo : Nat) (w : World) : List (Nat × Nat × ByteArray) → Value → Prop
  | [], v => v = .func (.func 89) #[] #[]
  | c :: l, v => ∃ B C p t, v = .func (.func 112) #[] #[.pointer (some ⟨B, 0, none⟩), .pointer (some ⟨C, 0, none⟩)] ∧ (lo ≤ B ∧ lo ≤ C) ∧ (B < w.heap.size ∧ C < w.heap.size) ∧ (w.cell? ⟨B, 0, none⟩ = some p ∧ w.cell? ⟨B, 1, none⟩ = some t) ∧
    (w.cell? ⟨C, 0, none⟩ = some (.int .i64 c.1) ∧ w.cell? ⟨C, 1, none⟩ = some (.int .i64 c.2.1) ∧ w.cell? ⟨C, 2, none⟩ = some (.string c.2.2)) ∧ PutAt lo w l t
theorem PutAt.below {lo : Nat} {w w' : World} (hb : RowKit.Below w.heap.size w w') : ∀ {l : List (Nat × Nat × ByteArray)} {v : Value}, PutAt lo w l v → PutAt lo w' l v
  | [], _, h => h
  | _ :: _, _, ⟨B, C, p, t, h1, h0, ⟨h2, h3⟩, ⟨h4, h5⟩, ⟨h6, h7, h8⟩, h9⟩ => ⟨B, C, p, t, h1, h0, ⟨Nat.lt_of_lt_of_le h2 hb.size, Nat.lt_of_lt_of_le h3 hb.size⟩, ⟨(hb.cell (p := ⟨B, 0, none⟩) h2).trans h4, (hb.cell (p := ⟨B, 1, none⟩) h2).trans h5⟩,
      ⟨(hb.cell (p := ⟨C, 0, none⟩) h3).trans h6, (hb.cell (p := ⟨C, 1, none⟩) h3).trans h7, (hb.cell (p := ⟨C, 2, none⟩) h3).trans h8⟩, h9.below hb⟩
theorem PutAt.other {lo : Nat} {w : World} {X o : Nat} (hX : X < lo) (u : Value) : ∀ {l : List (Nat × Nat × ByteArray)} {v : Value}, PutAt lo w l v → PutAt lo (w.setCell ⟨X, o, none⟩ u) l v
  | [], _, h => h
  | _ :: _, _, ⟨B, C, p, t, h1, ⟨ha, hb⟩, ⟨h2, h3⟩, ⟨h4, h5⟩, ⟨h6, h7, h8⟩, h9⟩ =>
    have e : ∀ b q, X ≠ b → (w.setCell ⟨X, o, none⟩ u).cell? ⟨b, q, none⟩ = w.cell? ⟨b, q, none⟩ := fun b q hb => World.cell?_setCell_other _ _ _ _ (fun e => hb (congrArg Addr.block e))
    ⟨B, C, p, t, h1, ⟨ha, hb⟩, ⟨by simpa [World.setCell] using h2, by simpa [World.setCell] using h3⟩, ⟨(e _ _ (by omega)).trans h4, (e _ _ (by omega)).trans h5⟩, ⟨(e _ _ (by omega)).trans h6, (e _ _ (by omega)).trans h7, (e _ _ (by omega)).trans h8⟩, PutAt.other hX u h9⟩
theorem PutAt.zero {lo : Nat} {w : World} : ∀ {l : List (Nat × Nat × ByteArray)} {v : Value}, PutAt lo w l v → PutAt 0 w l v
  | [], _, h => h
  | _ :: _, _, ⟨B, C, p, t, h1, _, h2, h3, h4, h5⟩ => ⟨B, C, p, t, h1, ⟨Nat.zero_le _, Nat.zero_le _⟩, h2, h3, h4, h5.zero⟩
theorem put_one8 {lo : Nat} {w : World} {v : Value} : ∀ {l : List (Nat × Nat × ByteArray)}, PutAt lo w l v → v.oneCell' = true
  | [], h => by rw [show v = _ from h]; rfl
  | _ :: _, ⟨_, _, _, _, h1, _⟩ => by rw [h1]; rfl
theorem put_form8 {lo : Nat} {w : World} {c : Nat × Nat × ByteArray} {l : List (Nat × Nat × ByteArray)} {v : Value} (h : PutAt lo w (c :: l) v) : ∃ B C, v = .func (.func 112) #[] #[.pointer (some ⟨B, 0, none⟩), .pointer (some ⟨C, 0, none⟩)] := by
  obtain ⟨B, C, _, _, h1, _⟩ := h
  exact ⟨B, C, h1⟩
/-- It is called. -/
def CallsV (v sv : Value) (w : World) (Q : Ending → World → Prop) : Prop := ∃ f caps, v = .func (.func f) #[] caps ∧ (∀ args W, (callFunc f args).run Tryz.prog W = .ok (.enter f args) W) ∧ Calls Tryz.prog f (#[sv] ++ caps) w Q
theorem infoQ8 : (Tryz.prog.info? 45).map (fun i => (i.zero, i.size, i.bytes)) = some (some (.agg #[.int .i64 0, .int .i64 0, .string ⟨#[]⟩]), 3, 32) := by kernel_rfl
theorem putNil_any (sv : Value) (w : World) : Calls Tryz.prog 89 #[sv] w fun x w' => x = .returned sv ∧ w' = w := by
  go_enter Tryz.func89, Tryz.ntmps89
  go_wp2
  go_ret
  exact ⟨rfl, rfl⟩
set_option maxRecDepth 100000 in
set_option maxHeartbeats 4000000 in
/-- One closure, given what the one within it does. -/
theorem putCons_any (base B C : Nat) (c : Nat × Nat × ByteArray) (l : List (Nat × Nat × ByteArray)) (t sv : Value) (n : Nat) (xs : List Value) (w0 w : World) (hbase : base = w0.heap.size) (hB : B < base) (hC : C < base) (hw : RowKit.Below base w0 w)
    (b1 : w.cell? ⟨B, 1, none⟩ = some t) (c0 : w.cell? ⟨C, 0, none⟩ = some (.int .i64 c.1)) (c1 : w.cell? ⟨C, 1, none⟩ = some (.int .i64 c.2.1)) (c2 : w.cell? ⟨C, 2, none⟩ = some (.string c.2.2))
    (ho : w.ownsRow base 45 3 sv n xs) (hn : n ≤ 1000)
    (hin : ∀ W sv', RowKit.Below base w0 W → W.ownsRow base 45 3 sv' (n + 1) (xs ++ cellsQ c) → CallsV t sv' W fun x w' => ∃ s2, x = .returned s2 ∧ w'.ownsRow base 45 3 s2 (n + 1 + l.length) (xs ++ cellsQ c ++ flatQ l) ∧ RowKit.Below base w0 w') :
    Calls Tryz.prog 112 #[sv, .pointer (some ⟨B, 0, none⟩), .pointer (some ⟨C, 0, none⟩)] w fun x w' => ∃ s2, x = .returned s2 ∧ w'.ownsRow base 45 3 s2 (n + (c :: l).length) (xs ++ flatQ (c :: l)) ∧ RowKit.Below base w0 w' := by
  obtain ⟨i0, hi, hi0, hi1, hi2⟩ := info_parts infoQ8
  obtain ⟨cf, cl, ck⟩ := c
  simp only at *
  have HO := Lib.hid ho
  have HW := Lib.hid hw
  have HIN := Lib.hid hin
  have hzb : base ≤ w.heap.size := by have := hw.size; omega
  clear ho hw hin
  go_enter Tryz.func112, Tryz.ntmps112
  have HS := Lib.hid (fun W (hW : RowKit.Below base w0 W) => (show (fun W => W.cell? ⟨B, 1, none⟩ = some t ∧ W.cell? ⟨C, 0, none⟩ = some (.int .i64 cf) ∧ W.cell? ⟨C, 1, none⟩ = some (.int .i64 cl) ∧ W.cell? ⟨C, 2, none⟩ = some (.string ck)) W from ⟨(hW.cell (p := ⟨B, 1, none⟩) hB).trans ((HW.out.cell (p := ⟨B, 1, none⟩) hB).symm.trans b1), (hW.cell (p := ⟨C, 0, none⟩) hC).trans ((HW.out.cell (p := ⟨C, 0, none⟩) hC).symm.trans c0), (hW.cell (p := ⟨C, 1, none⟩) hC).trans ((HW.out.cell (p := ⟨C, 1, none⟩) hC).symm.trans c1), (hW.cell (p := ⟨C, 2, none⟩) hC).trans ((HW.out.cell (p := ⟨C, 2, none⟩) hC).symm.trans c2)⟩))
  clear b1 c0 c1 c2
  have hS0 := HS.out w.drew HW.out.drew
  go_wp2_with fail
  refine wp_region_till (fun W => W.cell? ⟨B, 1, none⟩ = some t ∧ W.cell? ⟨C, 0, none⟩ = some (.int .i64 cf) ∧ W.cell? ⟨C, 1, none⟩ = some (.int .i64 cl) ∧ W.cell? ⟨C, 2, none⟩ = some (.string ck)) 7 (by kernel_rfl) ?_
  refine wpTill_take (i := 0) (oi := ⟨some 5, .fieldAddr 100 (.tmp 1) 1, _, _, _, none⟩) (v := (.pointer (some ⟨B, 1, none⟩))) rfl (by kernel_rfl) (by kernel_rfl) (by kernel_rfl) (by kernel_rfl) (fun _ _ _ h => h) (.inl ⟨by rfl, fun W hW => by go_simp⟩) hS0 ?_
  try simp only [Act.put, List.setIfInBounds_toArray, List.set_cons_zero, List.set_cons_succ]
  refine wpTill_take (i := 1) (oi := ⟨some 6, .load 98 (.tmp 5), _, _, _, none⟩) (v := t) rfl (by kernel_rfl) (by kernel_rfl) (by kernel_rfl) (by kernel_rfl) (fun _ _ _ h => h) (.inl ⟨by rfl, fun W hW => by have h0 := hW.1; go_simp⟩) hS0 ?_
  try simp only [Act.put, List.setIfInBounds_toArray, List.set_cons_zero, List.set_cons_succ]
  refine wpTill_take (i := 2) (oi := ⟨some 7, .move (.tmp 0), _, _, _, none⟩) (v := sv) rfl (by kernel_rfl) (by kernel_rfl) (by kernel_rfl) (by kernel_rfl) (fun _ _ _ h => h) (.inl ⟨by rfl, fun W hW => by go_simp⟩) hS0 ?_
  try simp only [Act.put, List.setIfInBounds_toArray, List.set_cons_zero, List.set_cons_succ]
  refine wpTill_take (i := 3) (oi := ⟨some 8, .load 45 (.tmp 2), _, _, _, none⟩) (v := (.agg #[.int .i64 cf, .int .i64 cl, .string ck])) rfl (by kernel_rfl) (by kernel_rfl) (by kernel_rfl) (by kernel_rfl) (fun _ _ _ h => h) (.inl ⟨by rfl, fun W hW => by have h0 := hW.2.1; have h1 := hW.2.2.1; have h2 := hW.2.2.2; go_simp⟩) hS0 ?_
  try simp only [Act.put, List.setIfInBounds_toArray, List.set_cons_zero, List.set_cons_succ]
  refine wpTill_one (i := 4) (o := ⟨some 9, _, _, _, _, none⟩) (by kernel_rfl) rfl (fun K hK => ?_)
  go_simp
  obtain ⟨wx, hwx⟩ : ∃ wx, wx = (w.alloc (.cells #[.int .i64 cf, .int .i64 cl, .string ck] 45)).drew := ⟨_, rfl⟩
  have hbx : RowKit.Below w.heap.size w wx := by rw [hwx]; exact ((Below.refl _ _).alloc (Nat.le_refl _) _).drew
  have e0 : wx.cell? ⟨w.heap.size, 0, none⟩ = some (.int .i64 cf) := by rw [hwx]; simp [go_sem]
  have e1 : wx.cell? ⟨w.heap.size, 1, none⟩ = some (.int .i64 cl) := by rw [hwx]; simp [go_sem]
  have e2 : wx.cell? ⟨w.heap.size, 2, none⟩ = some (.string ck) := by rw [hwx]; simp [go_sem]
  have HOX := Lib.hid (owns_below HO.out hbx)
  have HWX := Lib.hid (HW.out.trans (hbx.mono hzb))
  have hzx : base ≤ wx.heap.size := Nat.le_trans hzb hbx.size
  rw [← hwx]
  refine hK _ _ (fun _ => HS.out _ HWX.out) ?_
  clear hK K hwx hbx
  try simp only [Act.put, List.setIfInBounds_toArray, List.set_cons_zero, List.set_cons_succ]
  refine wpTill_one (i := 5) (o := ⟨some 10, _, _, _, _, none⟩) (by kernel_rfl) rfl (fun K hK => ?_)
  refine step_append_ownT _ (by rfl) (.tmp 7) (.tmp 9) 34 (by rfl) base 45 i0 (.agg #[.int .i64 0, .int .i64 0, .string ⟨#[]⟩]) 3 32 Tryz.underlying34 hi hi0 hi1 hi2 rfl (by decide) sv n xs (by rfl) HOX.out ⟨w.heap.size, 0, none⟩ 1 1 (cellsQ (cf, cl, ck)) (by rfl) rfl (fun j u hj => by match j, hj with | 0, hj => simp [cellsQ] at hj; subst hj; simpa [Addr.add] using e0 | 1, hj => simp [cellsQ] at hj; subst hj; simpa [Addr.add] using e1 | 2, hj => simp [cellsQ] at hj; subst hj; simpa [Addr.add] using e2) (fun u hu => by simp [cellsQ] at hu; rcases hu with rfl | rfl | rfl <;> rfl) (by unfold maxLen; omega) (by omega) hzx ?_
  intro v1 w5 hown5 hgrow5 _
  have HO5 := Lib.hid hown5
  have hb5 : RowKit.Below base w0 w5 := HWX.out.grown hgrow5 (by omega) (fun q hq => (HOX.out.lt q hq).1)
  have HW5 := Lib.hid hb5
  refine hK _ _ (fun _ => HS.out _ hb5) ?_
  clear hK K hown5 hgrow5 hb5 e0 e1 e2
  try simp only [Act.put, List.setIfInBounds_toArray, List.set_cons_zero, List.set_cons_succ]
  obtain ⟨f, caps, rfl, hen, hca⟩ := HIN.out w5 v1 HW5.out HO5.out
  refine wpTill_one (i := 6) (o := ⟨some 11, _, _, _, _, none⟩) (by kernel_rfl) rfl (fun K hK => ?_)
  refine step_callv _ (by rfl) 6 (.tmp 10) 34 (by rfl) f caps (by rfl) hen v1 (by rfl) (hca.mono ?_)
  rintro _ w6 ⟨s2, rfl, ho6, hb6⟩
  refine ⟨_, rfl, ?_⟩
  have HO6 := Lib.hid ho6
  have HW6 := Lib.hid hb6
  refine hK _ _ (fun _ => HS.out _ hb6) ?_
  clear hK K ho6 hb6
  try simp only [Act.put, List.setIfInBounds_toArray, List.set_cons_zero, List.set_cons_succ]
  refine wpTill_one (i := 7) (o := ⟨some 4, _, _, _, _, none⟩) (by kernel_rfl) rfl (fun K hK => ?_)
  go_simp
  refine hK _ _ (fun h => absurd (show (true : Bool) = false from h) (by decide)) ?_
  clear hK K
  refine wpTill_done (by kernel_rfl) ?_
  go_wp2
  go_ret
  refine ⟨s2, rfl, ?_, HW6.out⟩
  have := HO6.out
  rw [List.append_assoc] at this
  rw [flatQ_cons, show n + (l.length + 1) = n + 1 + l.length by omega]
  exact this
theorem enterNil : ∀ args W, (callFunc 89 args).run Tryz.prog W = .ok (.enter 89 args) W := enters_of Tryz.func89 (by kernel_rfl) rfl
theorem enterCons : ∀ args W, (callFunc 112 args).run Tryz.prog W = .ok (.enter 112 args) W := enters_of Tryz.func112 (by kernel_rfl) rfl
/-- Such a function puts its clusters behind what it is given. -/
theorem put_any (lo : Nat) (w0 : World) : ∀ (l : List (Nat × Nat × ByteArray)) (v : Value), PutAt lo w0 l v → ∀ (w : World) (sv : Value) (n : Nat) (xs : List Value), RowKit.Below w0.heap.size w0 w → w.ownsRow w0.heap.size 45 3 sv n xs → n + l.length ≤ 1000 →
    CallsV v sv w fun x w' => ∃ s2, x = .returned s2 ∧ w'.ownsRow w0.heap.size 45 3 s2 (n + l.length) (xs ++ flatQ l) ∧ RowKit.Below w0.heap.size w0 w'
  | [], v, h, w, sv, n, xs, hw, ho, _ => ⟨_, _, h, enterNil, (putNil_any sv w).mono fun x w' ⟨h1, h2⟩ => ⟨sv, h1, by rw [h2]; simpa [flatQ] using ho, by rw [h2]; exact hw⟩⟩
  | c :: l, v, ⟨B, C, p, t, hv, _, ⟨hB, hC⟩, ⟨_, b1⟩, ⟨c0, c1, c2⟩, ht⟩, w, sv, n, xs, hw, ho, hn =>
    ⟨_, _, hv, enterCons, putCons_any w0.heap.size B C c l t sv n xs w0 w rfl hB hC hw ((hw.cell (p := ⟨B, 1, none⟩) hB).trans b1) ((hw.cell (p := ⟨C, 0, none⟩) hC).trans c0) ((hw.cell (p := ⟨C, 1, none⟩) hC).trans c1) ((hw.cell (p := ⟨C, 2, none⟩) hC).trans c2) ho (by simp at hn; omega)
      (fun W sv' hW hO => put_any lo w0 l t ht W sv' (n + 1) (xs ++ cellsQ c) hW hO (by simp at hn; omega))⟩
/-- What a closure's two boxes hold. -/
structure BhAt (w : World) (B : Nat) (p : Int) (tv : Value) (c : Nat × Nat × ByteArray) : Prop where
  lt : B + 1 < w.heap.size
  p0 : w.cell? ⟨B, 0, none⟩ = some (.int .i64 p)
  p1 : w.cell? ⟨B, 1, none⟩ = some tv
  c0 : w.cell? ⟨B + 1, 0, none⟩ = some (.int .i64 c.1)
  c1 : w.cell? ⟨B + 1, 1, none⟩ = some (.int .i64 c.2.1)
  c2 : w.cell? ⟨B + 1, 2, none⟩ = some (.string c.2.2)
abbrev cloB (B : Nat) : Value := .func (.func 112) #[] #[.pointer (some ⟨B, 0, none⟩), .pointer (some ⟨B + 1, 0, none⟩)]
theorem BhAt.below {w w' : World} {B : Nat} {p : Int} {tv : Value} {c : Nat × Nat × ByteArray} (h : BhAt w B p tv c) (hb : RowKit.Below w.heap.size w w') : BhAt w' B p tv c :=
  ⟨Nat.lt_of_lt_of_le h.lt hb.size, (hb.cell (p := ⟨B, 0, none⟩) (Nat.lt_of_succ_lt h.lt)).trans h.p0, (hb.cell (p := ⟨B, 1, none⟩) (Nat.lt_of_succ_lt h.lt)).trans h.p1, (hb.cell (p := ⟨B + 1, 0, none⟩) h.lt).trans h.c0, (hb.cell (p := ⟨B + 1, 1, none⟩) h.lt).trans h.c1, (hb.cell (p := ⟨B + 1, 2, none⟩) h.lt).trans h.c2⟩
theorem BhAt.other {w : World} {B : Nat} {p : Int} {tv : Value} {c : Nat × Nat × ByteArray} (h : BhAt w B p tv c) {X o : Nat} (h1 : X ≠ B) (h2 : X ≠ B + 1) (u : Value) : BhAt (w.setCell ⟨X, o, none⟩ u) B p tv c :=
  have e : ∀ b q, X ≠ b → (w.setCell ⟨X, o, none⟩ u).cell? ⟨b, q, none⟩ = w.cell? ⟨b, q, none⟩ := fun b q hb => World.cell?_setCell_other _ _ _ _ (fun e => hb (congrArg Addr.block e))
  ⟨by simpa [World.setCell] using h.lt, (e _ _ h1).trans h.p0, (e _ _ h1).trans h.p1, (e _ _ h2).trans h.c0, (e _ _ h2).trans h.c1, (e _ _ h2).trans h.c2⟩
theorem BhAt.put {lo : Nat} {w : World} {B : Nat} {p : Int} {tv : Value} {c : Nat × Nat × ByteArray} {l : List (Nat × Nat × ByteArray)} (h : BhAt w B p tv c) (hlo : lo ≤ B) (ht : PutAt lo w l tv) : PutAt lo w (c :: l) (cloB B) :=
  ⟨B, B + 1, _, tv, rfl, ⟨hlo, by omega⟩, ⟨Nat.lt_of_succ_lt h.lt, h.lt⟩, ⟨h.p0, h.p1⟩, ⟨h.c0, h.c1, h.c2⟩, ht⟩
set_option maxRecDepth 100000 in
set_option maxHeartbeats 2000000 in
theorem behind_any (p pr : Int) (tv : Value) (ci cl : Nat) (ck : ByteArray) (w : World) (hp0 : 0 ≤ p) (hp1 : p ≤ 1000) (hq0 : 0 ≤ pr) (hq1 : pr ≤ 1000) :
    Calls Tryz.prog 104 #[.agg #[.int .i64 p, tv], .agg #[.int .i64 ci, .int .i64 cl, .string ck], .int .i64 pr] w fun x w' => x = .returned (.agg #[.int .i64 (pr + (if 0 < p then 2 + p else 0)), cloB w.heap.size]) ∧ BhAt w' w.heap.size p tv (ci, cl, ck) ∧ RowKit.Below w.heap.size w w' := by
  have hsf := fun (ad : Addr) (fn : Fn) (fi ca : Array Value) (W : World) => run_store Tryz.prog W ad (.func fn fi ca) .plain rfl
  have hR : ∃ R, R = pr + (if 0 < p then 2 + p else 0) := ⟨_, rfl⟩
  obtain ⟨R, hR⟩ := hR
  rw [← hR]
  have HRR := Lib.hid hR
  clear hR
  by_cases hp : 0 < p
  · have HPR := Lib.hid (show R = pr + 2 + p by rw [HRR.out, if_pos hp]; omega)
    go_enter Tryz.func104, Tryz.ntmps104
    go_wp2_with fail
    obtain ⟨wa, hwa⟩ : ∃ wa, wa = ((w.alloc (.cells #[.int .i64 p, tv] 100)).alloc (.cells #[.int .i64 ci, .int .i64 cl, .string ck] 45)).alloc (.cells #[.int .i64 (pr + 2 + p), .func (.func 112) #[] #[.pointer (some ⟨w.heap.size, 0, none⟩), .pointer (some ⟨w.heap.size + 1, 0, none⟩)]] 100) := ⟨_, rfl⟩
    have hba : RowKit.Below w.heap.size w wa := by rw [hwa]; exact (((Below.refl _ _).alloc (Nat.le_refl _) _).alloc (by simp) _).alloc (by simp; omega) _
    have c0 : wa.cell? ⟨w.heap.size, 0, none⟩ = some (.int .i64 p) := by rw [hwa]; simp [go_sem]
    have c1 : wa.cell? ⟨w.heap.size, 1, none⟩ = some tv := by rw [hwa]; simp [go_sem]
    have d0 : wa.cell? ⟨w.heap.size + 1, 0, none⟩ = some (.int .i64 ci) := by rw [hwa]; simp [go_sem]
    have d1 : wa.cell? ⟨w.heap.size + 1, 1, none⟩ = some (.int .i64 cl) := by rw [hwa]; simp [go_sem]
    have d2 : wa.cell? ⟨w.heap.size + 1, 2, none⟩ = some (.string ck) := by rw [hwa]; simp [go_sem]
    have r0 : wa.cell? ⟨w.heap.size + 1 + 1, 0, none⟩ = some (.int .i64 (pr + 2 + p)) := by rw [hwa]; simp [go_sem]
    have r1 : wa.cell? ⟨w.heap.size + 1 + 1, 1, none⟩ = some (.func (.func 112) #[] #[.pointer (some ⟨w.heap.size, 0, none⟩), .pointer (some ⟨w.heap.size + 1, 0, none⟩)]) := by rw [hwa]; simp [go_sem]
    have hz : wa.heap.size = w.heap.size + 3 := by rw [hwa]; simp
    rw [← hwa]
    clear hwa
    refine bodyPost_ret (v := .agg #[.int .i64 (pr + 2 + p), .func (.func 112) #[] #[.pointer (some ⟨w.heap.size, 0, none⟩), .pointer (some ⟨w.heap.size + 1, 0, none⟩)]]) (by simp [results, Tryz.results104, go_sem, r0, r1]) rfl ⟨by rw [HPR.out], ⟨by omega, c0, c1, d0, d1, d2⟩, hba⟩
  · have HPR := Lib.hid (show R = pr + p by rw [HRR.out, if_neg hp]; omega)
    go_enter Tryz.func104, Tryz.ntmps104
    go_wp2_with fail
    obtain ⟨wa, hwa⟩ : ∃ wa, wa = ((w.alloc (.cells #[.int .i64 p, tv] 100)).alloc (.cells #[.int .i64 ci, .int .i64 cl, .string ck] 45)).alloc (.cells #[.int .i64 (pr + p), .func (.func 112) #[] #[.pointer (some ⟨w.heap.size, 0, none⟩), .pointer (some ⟨w.heap.size + 1, 0, none⟩)]] 100) := ⟨_, rfl⟩
    have hba : RowKit.Below w.heap.size w wa := by rw [hwa]; exact (((Below.refl _ _).alloc (Nat.le_refl _) _).alloc (by simp) _).alloc (by simp; omega) _
    have c0 : wa.cell? ⟨w.heap.size, 0, none⟩ = some (.int .i64 p) := by rw [hwa]; simp [go_sem]
    have c1 : wa.cell? ⟨w.heap.size, 1, none⟩ = some tv := by rw [hwa]; simp [go_sem]
    have d0 : wa.cell? ⟨w.heap.size + 1, 0, none⟩ = some (.int .i64 ci) := by rw [hwa]; simp [go_sem]
    have d1 : wa.cell? ⟨w.heap.size + 1, 1, none⟩ = some (.int .i64 cl) := by rw [hwa]; simp [go_sem]
    have d2 : wa.cell? ⟨w.heap.size + 1, 2, none⟩ = some (.string ck) := by rw [hwa]; simp [go_sem]
    have r0 : wa.cell? ⟨w.heap.size + 1 + 1, 0, none⟩ = some (.int .i64 (pr + p)) := by rw [hwa]; simp [go_sem]
    have r1 : wa.cell? ⟨w.heap.size + 1 + 1, 1, none⟩ = some (.func (.func 112) #[] #[.pointer (some ⟨w.heap.size, 0, none⟩), .pointer (some ⟨w.heap.size + 1, 0, none⟩)]) := by rw [hwa]; simp [go_sem]
    have hz : wa.heap.size = w.heap.size + 3 := by rw [hwa]; simp
    rw [← hwa]
    clear hwa
    refine bodyPost_ret (v := .agg #[.int .i64 (pr + p), .func (.func 112) #[] #[.pointer (some ⟨w.heap.size, 0, none⟩), .pointer (some ⟨w.heap.size + 1, 0, none⟩)]]) (by simp [results, Tryz.results104, go_sem, r0, r1]) rfl ⟨by rw [HPR.out], ⟨by omega, c0, c1, d0, d1, d2⟩, hba⟩

theorem wrap_i64_id8 {n : Int} (h0 : -9223372036854775808 ≤ n) (h1 : n ≤ 9223372036854775807) : IntKind.i64.wrap n = n := by
  unfold IntKind.wrap
  simp [IntKind.signed, IntKind.bits]
  omega
theorem finT_bound {d : Array CaseD} {rest : Int} (hok : SwOK d rest) (j : Nat) (hj : j ≤ d.size) : 0 ≤ (finT d j).1 ∧ (finT d j).1 ≤ 160 ∧ (j < d.size → 0 < (finT d j).1) ∧ (j = d.size → (finT d j).1 = 0) := by
  have h := tabT_ok hok d.size (Nat.le_refl _)
  have h8 := hok.size
  by_cases e : j < d.size
  · have : (1 ≤ (finT d j).1 ∧ (finT d j).1 ≤ 20 * ((d.size : Int) - j)) := (h.2 j (by omega) e).1
    omega
  · have : (finT d j).1 = 0 := h.1 j (by omega)
    omega
theorem set2_cells8 (w : World) (g : Nat) {u0 u1 : Value} (v0 v1 : Value) (h0 : w.cell? ⟨g, 0, none⟩ = some u0) (h1 : w.cell? ⟨g, 1, none⟩ = some u1) :
    ((w.setCell ⟨g, 0, none⟩ v0).setCell ⟨g, 1, none⟩ v1).cell? ⟨g, 0, none⟩ = some v0 ∧ ((w.setCell ⟨g, 0, none⟩ v0).setCell ⟨g, 1, none⟩ v1).cell? ⟨g, 1, none⟩ = some v1 := by
  have o1 : ∀ (W : World) (x y : Nat) (v : Value), x ≠ y → (W.setCell ⟨g, x, none⟩ v).cell? ⟨g, y, none⟩ = W.cell? ⟨g, y, none⟩ := fun W x y v h => World.cell?_setCell_other _ _ _ _ (fun e => h (by cases e; rfl))
  exact ⟨(o1 _ 1 0 _ (by decide)).trans (World.cell?_setCell_same w ⟨g, 0, none⟩ v0 h0), World.cell?_setCell_same (w.setCell ⟨g, 0, none⟩ v0) ⟨g, 1, none⟩ v1 ((o1 _ 0 1 _ (by decide)).trans h1)⟩
def candP (d : Array CaseD) (i t : Nat) : Int := if t = 0 then 0 else (candT d (finT d) i t).1
def headL8 (d : Array CaseD) (i t : Nat) : Nat × Nat × ByteArray := (i, (candT d (finT d) i t).2, bestN8 (subD d i (candT d (finT d) i t).2))
def BestAt (lo : Nat) (d : Array CaseD) (i t : Nat) (w0 w : World) (v : Value) : Prop := (t = 0 ∧ v = .nilFunc) ∨ (0 < t ∧ ∃ B p tv, v = cloB B ∧ w0.heap.size + 2 < B ∧ BhAt w B p tv (headL8 d i t) ∧ PutAt lo w0 (finL d ((candT d (finT d) i t).2 + 1)) tv)
theorem BestAt.below {lo : Nat} {d : Array CaseD} {i t : Nat} {w0 w w' : World} {v : Value} (h : BestAt lo d i t w0 w v) (hb : RowKit.Below w.heap.size w w') : BestAt lo d i t w0 w' v := by
  rcases h with h | ⟨h1, B, p, tv, h2, h3, h4, h5⟩
  · exact .inl h
  · exact .inr ⟨h1, B, p, tv, h2, h3, h4.below hb, h5⟩
set_option maxRecDepth 100000 in
set_option maxHeartbeats 4000000 in
theorem tailFrom_any (lo b off cap : Nat) (d : Array CaseD) (rest : Int) (i G : Nat) (w : World) (hR : RowC w b off d) (hE : ErrAt w) (hcap : d.size ≤ cap) (hmax : cap ≤ maxLen) (hok : SwOK d rest) (hi : i < d.size) (hG : G < w.heap.size) (hlo : lo ≤ w.heap.size)
    (hT : ∀ j, i < j → j ≤ d.size → ∃ v, w.cell? ⟨G, j * 2, none⟩ = some (.int .i64 (finT d j).1) ∧ w.cell? ⟨G, j * 2 + 1, none⟩ = some v ∧ PutAt lo w (finL d j) v) :
    Calls Tryz.prog 90 #[.agg #[.slice (some ⟨b, off, none⟩) d.size cap, .int .i64 rest], .int .i64 i, .slice (some ⟨G, 0, none⟩) (d.size + 1) (d.size + 1)] w fun x w' => ∃ v, x = .returned (.agg #[.int .i64 (finT d i).1, v]) ∧ PutAt lo w' (finL d i) v ∧ RowKit.Below w.heap.size w w' := by
  have HCH := Lib.hid (fun k (hik : i ≤ k) (hk : k < d.size) W (hW : RowKit.Below w.heap.size w W) => cheapest_any b off cap d rest i k W (hR.below hW) (hE.below hW) hcap hmax hok hik hk)
  have HTA := Lib.hid hT
  have h8 := hok.size
  have h8i : (d.size : Int) ≤ 8 := by omega
  have HBI := Lib.hid (fun k (hik : i ≤ k) (hk : k < d.size) => bestP8_in (hok.sub (i := i) hk) (by rw [subD_size hk]; omega))
  have HFB := Lib.hid (fun j hj => finT_bound hok j hj)
  have HCIN := Lib.hid (fun t ht => candT_in hok (tabT_ok hok d.size (Nat.le_refl _)) (i := i) (by omega) t ht)
  have HFS := Lib.hid (fin_step hi)
  have HFC := Lib.hid (finL_cons hok hi)
  clear hR hE hmax hok hT
  have hsf := fun (ad : Addr) (fn : Fn) (fi ca : Array Value) (W : World) => run_store Tryz.prog W ad (.func fn fi ca) .plain rfl
  go_enter Tryz.func90, Tryz.ntmps90
  go_wp2_with fail
  obtain ⟨wa, hwa⟩ : ∃ wa, wa = ((w.alloc (.cells #[.slice (some ⟨b, off, none⟩) d.size cap, .int .i64 rest] 32)).alloc (.cells #[.int .i64 0, .nilFunc] 100)).alloc (.cells #[.int .i64 0, .nilFunc] 100) := ⟨_, rfl⟩
  have hba : RowKit.Below w.heap.size w wa := by rw [hwa]; exact (((Below.refl _ _).alloc (Nat.le_refl _) _).alloc (by simp) _).alloc (by simp; omega) _
  have c0 : wa.cell? ⟨w.heap.size, 0, none⟩ = some (.slice (some ⟨b, off, none⟩) d.size cap) := by rw [hwa]; simp [go_sem]
  have c1 : wa.cell? ⟨w.heap.size, 1, none⟩ = some (.int .i64 rest) := by rw [hwa]; simp [go_sem]
  have r0 : wa.cell? ⟨w.heap.size + 1, 0, none⟩ = some (.int .i64 0) := by rw [hwa]; simp [go_sem]
  have r1 : wa.cell? ⟨w.heap.size + 1, 1, none⟩ = some .nilFunc := by rw [hwa]; simp [go_sem]
  have rf : ∀ j, wa.frozen? ⟨w.heap.size + 1, j, none⟩ = false := fun j => by rw [hwa]; simp [go_sem]
  have b0 : wa.cell? ⟨w.heap.size + 1 + 1, 0, none⟩ = some (.int .i64 0) := by rw [hwa]; simp [go_sem]
  have b1 : wa.cell? ⟨w.heap.size + 1 + 1, 1, none⟩ = some .nilFunc := by rw [hwa]; simp [go_sem]
  have bf : ∀ j, wa.frozen? ⟨w.heap.size + 1 + 1, j, none⟩ = false := fun j => by rw [hwa]; simp [go_sem]
  have hz : w.heap.size + 1 + 1 < wa.heap.size := by rw [hwa]; simp
  rw [← hwa]
  have HBA := Lib.hid hba
  have HRF := Lib.hid rf
  have HBF := Lib.hid bf
  clear hwa hba rf bf
  go_loopw [8] (fun x wr => ∃ (t : Nat) (bv : Value), x = .int .i64 ((i : Int) + t) ∧ i + t ≤ d.size ∧ wr.cell? ⟨w.heap.size, 0, none⟩ = some (.slice (some ⟨b, off, none⟩) d.size cap) ∧ wr.cell? ⟨w.heap.size, 1, none⟩ = some (.int .i64 rest) ∧
    wr.cell? ⟨w.heap.size + 1, 0, none⟩ = some (.int .i64 0) ∧ wr.cell? ⟨w.heap.size + 1, 1, none⟩ = some .nilFunc ∧ Hid (∀ o, wr.frozen? ⟨w.heap.size + 1, o, none⟩ = false) ∧
    wr.cell? ⟨w.heap.size + 1 + 1, 0, none⟩ = some (.int .i64 (candP d i t)) ∧ wr.cell? ⟨w.heap.size + 1 + 1, 1, none⟩ = some bv ∧ Hid (∀ o, wr.frozen? ⟨w.heap.size + 1 + 1, o, none⟩ = false) ∧ Hid (BestAt lo d i t w wr bv) ∧
    Hid (RowKit.Below w.heap.size w wr) ∧ w.heap.size + 1 + 1 < wr.heap.size) (fun x _ => ((d.size : Int) - intOf x).toNat)
  case atStart => exact ⟨0, .nilFunc, by simp, by omega, c0, c1, r0, r1, HRF.out, b0, b1, HBF.out, .inl ⟨rfl, rfl⟩, HBA.out, hz⟩
  case round =>
    obtain ⟨t, bv, rfl, ht, c0, c1, r0, r1, RF, b0, b1, BF, HBE, HW, hzr⟩ := hrel
    by_cases hkt : i + t < d.size
    · obtain ⟨vk, u0, u1, hput⟩ := HTA.out (i + t + 1) (by omega) (by omega)
      have U0 := (HW.out.cell (p := ⟨G, (i + t + 1) * 2, none⟩) hG).trans u0
      have U1 := (HW.out.cell (p := ⟨G, (i + t + 1) * 2 + 1, none⟩) hG).trans u1
      have hGr : G < wr.heap.size := Nat.lt_of_lt_of_le hG HW.out.size
      have HPUT := Lib.hid hput
      have HCL := Lib.hid (HCH.out (i + t) (by omega) hkt)
      have hbp := HBI.out (i + t) (by omega) hkt
      have hfk := HFB.out (i + t + 1) (by omega)
      obtain ⟨bp, hbpe⟩ : ∃ z, z = bestP8 (subD d i (i + t)) := ⟨_, rfl⟩
      obtain ⟨bn, hbne⟩ : ∃ z, z = bestN8 (subD d i (i + t)) := ⟨_, rfl⟩
      rw [← hbpe, ← hbne] at HCL
      rw [← hbpe] at hbp
      obtain ⟨fk, hfke⟩ : ∃ z, z = (finT d (i + t + 1)).1 := ⟨_, rfl⟩
      rw [← hfke] at U0 hfk
      have HBPE := Lib.hid hbpe
      have HBNE := Lib.hid hbne
      have HFKE := Lib.hid hfke
      simp only [Int.natCast_add] at HCL
      have hkl : (i : Int) + t < (d.size : Int) := by omega
      have HBH := Lib.hid (fun W => behind_any fk bp vk i (i + t) bn W hfk.1 (by omega) (by omega) (by omega))
      simp only [Int.natCast_add] at HBH
      obtain ⟨R, hR⟩ : ∃ R, R = bp + (if 0 < fk then 2 + fk else 0) := ⟨_, rfl⟩
      rw [← hR] at HBH
      have HRR := Lib.hid hR
      clear hR
      clear hput u0 u1 hbpe hbne hfke
      have HCY := Lib.hid (show ((candT d (finT d) i t).1 < 0 ∨ costK d (finT d) i (i + t) < (candT d (finT d) i t).1) → candT d (finT d) i (t + 1) = (costK d (finT d) i (i + t), i + t) from fun h => if_pos h)
      have HCN := Lib.hid (show ¬ ((candT d (finT d) i t).1 < 0 ∨ costK d (finT d) i (i + t) < (candT d (finT d) i t).1) → candT d (finT d) i (t + 1) = candT d (finT d) i t from fun h => if_neg h)
      have HCB := Lib.hid (show 0 < t → 1 ≤ (candT d (finT d) i t).1 from fun h => by
        obtain ⟨t', rfl⟩ : ∃ t', t = t' + 1 := ⟨t - 1, by omega⟩
        exact (HCIN.out t' (by omega)).1.1)
      have HRC := Lib.hid (show R = costK d (finT d) i (i + t) from by
        have h1 := HRR.out
        have h2 : costK d (finT d) i (i + t) = bestP8 (subD d i (i + t)) + (if i + t + 1 < d.size then 2 + (finT d (i + t + 1)).1 else 0) := rfl
        rw [← HFKE.out, ← HBPE.out] at h2
        rw [h1, h2]
        by_cases hm : i + t + 1 < d.size
        · rw [if_pos hm, if_pos (hfk.2.2.1 hm)]
        · rw [if_neg hm, if_neg (by have := hfk.2.2.2 (by omega); omega)])
      obtain ⟨k1, hk1⟩ : ∃ k1, k1 = i + t + 1 := ⟨_, rfl⟩
      have hwr : IntKind.i64.wrap ((i : Int) + t + 1) = (k1 : Int) := by
        have : IntKind.i64.wrap ((i : Int) + t + 1) = (i : Int) + t + 1 := wrap_i64_id8 (by omega) (by omega)
        rw [this]; omega
      have hx1 : (k1 : Int) < (d.size : Int) + 1 := by omega
      have hx2 : k1 < d.size + 1 := by omega
      rw [← hk1] at U0 U1
      have HK1 := Lib.hid hk1
      clear hk1
      have hz0 : w.heap.size < wr.heap.size := by omega
      have KS := Lib.hid (fun W (hb : RowKit.Below wr.heap.size wr W) => (⟨(hb.cell (p := ⟨G, k1 * 2, none⟩) hGr).trans U0, (hb.cell (p := ⟨G, k1 * 2 + 1, none⟩) hGr).trans U1, (hb.cell (p := ⟨w.heap.size, 0, none⟩) hz0).trans c0, (hb.cell (p := ⟨w.heap.size, 1, none⟩) hz0).trans c1⟩ : _ ∧ _ ∧ _ ∧ _))
      have KA := Lib.hid (fun (W : World) (h : W.cell? ⟨G, k1 * 2, none⟩ = some (.int .i64 fk) ∧ W.cell? ⟨G, k1 * 2 + 1, none⟩ = some vk ∧ W.cell? ⟨w.heap.size, 0, none⟩ = some (.slice (some ⟨b, off, none⟩) d.size cap) ∧ W.cell? ⟨w.heap.size, 1, none⟩ = some (.int .i64 rest)) => h)
      have HPUT2 := Lib.hid (HPUT.out.below HW.out)
      have HWZ := Lib.hid ((HW.out.alloc HW.out.size (.cells #[.int .i64 0, .nilFunc] 100)).drew)
      have zc0 : ∀ W : World, (W.alloc (.cells #[.int .i64 0, .nilFunc] 100)).cell? ⟨W.heap.size, 0, none⟩ = some (.int .i64 0) := fun W => by simp
      have zc1 : ∀ W : World, (W.alloc (.cells #[.int .i64 0, .nilFunc] 100)).cell? ⟨W.heap.size, 1, none⟩ = some .nilFunc := fun W => by simp
      have zcf : ∀ (W : World) o, (W.alloc (.cells #[.int .i64 0, .nilFunc] 100)).frozen? ⟨W.heap.size, o, none⟩ = false := fun W o => by simp
      have Z0 := zc0 wr
      have Z1 := zc1 wr
      have ZF0 := zcf wr 0
      have ZF1 := zcf wr 1
      rw [← HK1.out] at HPUT2 HPUT
      go_wp2_with fail
      go_region_held3 (fun W => W.cell? ⟨G, k1 * 2, none⟩ = some (.int .i64 fk) ∧ W.cell? ⟨G, k1 * 2 + 1, none⟩ = some vk ∧ W.cell? ⟨w.heap.size, 0, none⟩ = some (.slice (some ⟨b, off, none⟩) d.size cap) ∧ W.cell? ⟨w.heap.size, 1, none⟩ = some (.int .i64 rest))
        (first | exact ⟨U0, U1, c0, c1⟩ | exact K4.out | exact K3.out | exact KZ.out | exact KA.out _ K3.out | exact KA.out _ K4.out | exact KS.out _ (HB4.out.alloc HB4.out.size _) | exact KS.out _ ((HB4.out.setCell (p := ⟨wr.heap.size, 0, none⟩) (Nat.le_refl _) _).setCell (p := ⟨wr.heap.size, 1, none⟩) (Nat.le_refl _) _) | exact KS.out _ ((HB4.out.setCell (p := ⟨w3.heap.size, 0, none⟩) HB3.out.size _).setCell (p := ⟨w3.heap.size, 1, none⟩) HB3.out.size _) | exact KS.out _ (HB3.out.alloc HB3.out.size _) | go_keep) (first
        | (go_at_call 62; refine (HCL.out (wr.alloc (.cells #[.int .i64 0, .nilFunc] 100)).drew HWZ.out).mono ?_; rintro y w3 ⟨rfl, hb3⟩; have HB3 := Lib.hid (((Below.refl wr.heap.size wr).alloc (Nat.le_refl _) (.cells #[.int .i64 0, .nilFunc] 100)).drew.trans (hb3.mono (by simp))); have K3 := Lib.hid (KS.out w3 HB3.out); have x0 := (hb3.cell (p := ⟨wr.heap.size, 0, none⟩) (by simp)).trans Z0; have x1 := (hb3.cell (p := ⟨wr.heap.size, 1, none⟩) (by simp)).trans Z1; have xf0 := (hb3.frozen (p := ⟨wr.heap.size, 0, none⟩) (by simp)).trans ZF0; have xf1 := (hb3.frozen (p := ⟨wr.heap.size, 1, none⟩) (by simp)).trans ZF1; have xl : wr.heap.size < w3.heap.size := Nat.lt_of_lt_of_le (by simp) hb3.size; clear hb3)
        | (go_at_call 62; refine (HCL.out wr.drew HW.out.drew).mono ?_; rintro y w3 ⟨rfl, hb3⟩; have HB3 := Lib.hid ((Below.refl wr.heap.size wr).drew.trans hb3); have K3 := Lib.hid (KS.out w3 HB3.out); clear hb3)
        | (go_at_call 104; refine (HBH.out w3).mono ?_; rintro y w4 ⟨rfl, hp4, hb4⟩; have HB4 := Lib.hid (HB3.out.trans (hb4.mono HB3.out.size)); have K4 := Lib.hid (KS.out w4 HB4.out); have HP4 := Lib.hid hp4; have y0 := (hb4.cell (p := ⟨wr.heap.size, 0, none⟩) xl).trans x0; have y1 := (hb4.cell (p := ⟨wr.heap.size, 1, none⟩) xl).trans x1; have yf0 := (hb4.frozen (p := ⟨wr.heap.size, 0, none⟩) xl).trans xf0; have yf1 := (hb4.frozen (p := ⟨wr.heap.size, 1, none⟩) xl).trans xf1; have hgt := Lib.hid (Nat.lt_of_lt_of_le xl hb4.size); clear hb4 hp4)
        | (go_at_call 104; refine (HBH.out (w3.alloc (.cells #[.int .i64 0, .nilFunc] 100))).mono ?_; rintro y w4 ⟨rfl, hp4, hb4⟩; have HB4 := Lib.hid ((HB3.out.alloc HB3.out.size (.cells #[.int .i64 0, .nilFunc] 100)).trans (hb4.mono (by have := HB3.out.size; simp; omega))); have K4 := Lib.hid (KS.out w4 HB4.out); have HP4 := Lib.hid hp4; have y0 := (hb4.cell (p := ⟨w3.heap.size, 0, none⟩) (by simp)).trans (zc0 w3); have y1 := (hb4.cell (p := ⟨w3.heap.size, 1, none⟩) (by simp)).trans (zc1 w3); have yf0 := (hb4.frozen (p := ⟨w3.heap.size, 0, none⟩) (by simp)).trans (zcf w3 0); have yf1 := (hb4.frozen (p := ⟨w3.heap.size, 1, none⟩) (by simp)).trans (zcf w3 1); have hgt := Lib.hid (show w3.heap.size < w4.heap.size from Nat.lt_of_lt_of_le (by simp) hb4.size); clear hb4 hp4)
        | (go_at_call 104; refine (HBH.out w3).mono ?_; rintro y w4 ⟨rfl, hp4, hb4⟩; have HB4 := Lib.hid (HB3.out.trans (hb4.mono HB3.out.size)); have K4 := Lib.hid (KS.out w4 HB4.out); have HP4 := Lib.hid hp4; clear hb4 hp4))
      · obtain ⟨W5, hW5⟩ : ∃ W5, W5 = w4.alloc (.cells #[.int .i64 R, cloB w3.heap.size] 100) := ⟨_, rfl⟩
        have HB5 := Lib.hid (show RowKit.Below wr.heap.size wr W5 from by rw [hW5]; exact HB4.out.alloc HB4.out.size _)
        have HP5 := Lib.hid (show BhAt W5 (w3.heap.size) fk vk (i, i + t, bn) from by rw [hW5]; exact HP4.out.below ((Below.refl _ _).alloc (Nat.le_refl _) _))
        have e0 : W5.cell? ⟨w4.heap.size, 0, none⟩ = some (.int .i64 R) := by rw [hW5]; simp
        have e1 : W5.cell? ⟨w4.heap.size, 1, none⟩ = some (cloB (w3.heap.size)) := by rw [hW5]; simp
        rw [← hW5]
        have hBq : wr.heap.size ≤ w3.heap.size := HB3.out.size
        have o0 : w.heap.size < wr.heap.size := by omega
        have o1 : w.heap.size + 1 < wr.heap.size := by omega
        have C0 := (HB5.out.cell (p := ⟨w.heap.size, 0, none⟩) o0).trans c0
        have C1 := (HB5.out.cell (p := ⟨w.heap.size, 1, none⟩) o0).trans c1
        have R0 := (HB5.out.cell (p := ⟨w.heap.size + 1, 0, none⟩) o1).trans r0
        have R1 := (HB5.out.cell (p := ⟨w.heap.size + 1, 1, none⟩) o1).trans r1
        have B0 := (HB5.out.cell (p := ⟨w.heap.size + 1 + 1, 0, none⟩) hzr).trans b0
        have B1 := (HB5.out.cell (p := ⟨w.heap.size + 1 + 1, 1, none⟩) hzr).trans b1
        have RF5 := Lib.hid (fun o => (HB5.out.frozen (p := ⟨w.heap.size + 1, o, none⟩) o1).trans (RF.out o))
        have BF5 := Lib.hid (fun o => (HB5.out.frozen (p := ⟨w.heap.size + 1 + 1, o, none⟩) hzr).trans (BF.out o))
        have bf0 := BF5.out 0
        have bf1 := BF5.out 1
        clear hW5 c0 c1 r0 r1 b0 b1 U0 U1
        rcases Nat.eq_zero_or_pos t with ht0 | ht0
        · have hts : ((i : Int) + t == (i : Int)) = true := by simp [ht0]
          have HCT := Lib.hid (HCY.out (.inl (by rw [ht0]; show (-1 : Int) < 0; omega)))
          have HCP := Lib.hid (show candP d i (t + 1) = R by show (candT d (finT d) i (t + 1)).1 = R; rw [HCT.out]; exact HRC.out.symm)
          have HBL := Lib.hid (show headL8 d i (t + 1) = (i, i + t, bn) ∧ finL d ((candT d (finT d) i (t + 1)).2 + 1) = finL d k1 from ⟨by rw [headL8, HCT.out, HBNE.out], by rw [HCT.out, HK1.out]⟩)
          clear ht0
          go_wp2_with fail
          go_roundw
          case rel =>
            have HW6 := ((HW.out.trans (HB5.out.mono HW.out.size)).setCell (p := ⟨w.heap.size + 1 + 1, 0, none⟩) (by show w.heap.size ≤ w.heap.size + 1 + 1; omega) (.int .i64 R)).setCell (p := ⟨w.heap.size + 1 + 1, 1, none⟩) (by show w.heap.size ≤ w.heap.size + 1 + 1; omega) (cloB (w3.heap.size))
            have HS2 := set2_cells8 W5 (w.heap.size + 1 + 1) (.int .i64 R) (cloB (w3.heap.size)) B0 B1
            have oc : ∀ bl o, bl ≠ w.heap.size + 1 + 1 → ((W5.setCell ⟨w.heap.size + 1 + 1, 0, none⟩ (.int .i64 R)).setCell ⟨w.heap.size + 1 + 1, 1, none⟩ (cloB (w3.heap.size))).cell? ⟨bl, o, none⟩ = W5.cell? ⟨bl, o, none⟩ := fun bl o h => (World.cell?_setCell_other _ _ _ _ (fun e => h (congrArg Addr.block e).symm)).trans (World.cell?_setCell_other _ _ _ _ (fun e => h (congrArg Addr.block e).symm))
            refine ⟨t + 1, _, by have := HK1.out; congr 1 <;> omega, by omega, (oc _ _ (by omega)).trans C0, (oc _ _ (by omega)).trans C1, (oc _ _ (by omega)).trans R0, (oc _ _ (by omega)).trans R1, fun o => ?_, HS2.1.trans (by rw [HCP.out]), HS2.2, fun o => ?_, .inr ⟨Nat.succ_pos _, _, fk, vk, rfl, by omega, ?_, ?_⟩, HW6, ?_⟩
            · rw [World.frozen?_setCell, World.frozen?_setCell]; exact RF5.out o
            · rw [World.frozen?_setCell, World.frozen?_setCell]; exact BF5.out o
            · rw [HBL.out.1]
              exact (HP5.out.other (X := w.heap.size + 1 + 1) (o := 0) (by omega) (by omega) _).other (X := w.heap.size + 1 + 1) (o := 1) (by omega) (by omega) _
            · rw [HBL.out.2]
              exact HPUT.out
            · simpa [World.setCell] using Nat.lt_of_lt_of_le hzr HB5.out.size
          case measure => have := HK1.out; simp [intOf]; omega
        · have htn : ¬ ((i : Int) + t = (i : Int)) := by omega
          have htb : ((i : Int) + t == (i : Int)) = false := by simp; omega
          have hcp : candP d i t = (candT d (finT d) i t).1 := if_neg (by omega)
          by_cases hlt2 : R < candP d i t
          · have HCT := Lib.hid (HCY.out (.inr (by rw [← HRC.out, ← hcp]; exact hlt2)))
            have HCP := Lib.hid (show candP d i (t + 1) = R by show (candT d (finT d) i (t + 1)).1 = R; rw [HCT.out]; exact HRC.out.symm)
            have HBL := Lib.hid (show headL8 d i (t + 1) = (i, i + t, bn) ∧ finL d ((candT d (finT d) i (t + 1)).2 + 1) = finL d k1 from ⟨by rw [headL8, HCT.out, HBNE.out], by rw [HCT.out, HK1.out]⟩)
            obtain ⟨cp, hcpe⟩ : ∃ cp, cp = candP d i t := ⟨_, rfl⟩
            rw [← hcpe] at hlt2 B0
            clear hcp hcpe
            go_wp2_with fail
            go_roundw
            case rel =>
              have HW6 := ((HW.out.trans (HB5.out.mono HW.out.size)).setCell (p := ⟨w.heap.size + 1 + 1, 0, none⟩) (by show w.heap.size ≤ w.heap.size + 1 + 1; omega) (.int .i64 R)).setCell (p := ⟨w.heap.size + 1 + 1, 1, none⟩) (by show w.heap.size ≤ w.heap.size + 1 + 1; omega) (cloB (w3.heap.size))
              have HS2 := set2_cells8 W5 (w.heap.size + 1 + 1) (.int .i64 R) (cloB (w3.heap.size)) B0 B1
              have oc : ∀ bl o, bl ≠ w.heap.size + 1 + 1 → ((W5.setCell ⟨w.heap.size + 1 + 1, 0, none⟩ (.int .i64 R)).setCell ⟨w.heap.size + 1 + 1, 1, none⟩ (cloB (w3.heap.size))).cell? ⟨bl, o, none⟩ = W5.cell? ⟨bl, o, none⟩ := fun bl o h => (World.cell?_setCell_other _ _ _ _ (fun e => h (congrArg Addr.block e).symm)).trans (World.cell?_setCell_other _ _ _ _ (fun e => h (congrArg Addr.block e).symm))
              refine ⟨t + 1, _, by have := HK1.out; congr 1 <;> omega, by omega, (oc _ _ (by omega)).trans C0, (oc _ _ (by omega)).trans C1, (oc _ _ (by omega)).trans R0, (oc _ _ (by omega)).trans R1, fun o => ?_, HS2.1.trans (by rw [HCP.out]), HS2.2, fun o => ?_, .inr ⟨Nat.succ_pos _, _, fk, vk, rfl, by omega, ?_, ?_⟩, HW6, ?_⟩
              · rw [World.frozen?_setCell, World.frozen?_setCell]; exact RF5.out o
              · rw [World.frozen?_setCell, World.frozen?_setCell]; exact BF5.out o
              · rw [HBL.out.1]
                exact (HP5.out.other (X := w.heap.size + 1 + 1) (o := 0) (by omega) (by omega) _).other (X := w.heap.size + 1 + 1) (o := 1) (by omega) (by omega) _
              · rw [HBL.out.2]
                exact HPUT.out
              · simpa [World.setCell] using Nat.lt_of_lt_of_le hzr HB5.out.size
            case measure => have := HK1.out; simp [intOf]; omega
          · have HCT := Lib.hid (HCN.out (by
              intro h
              rcases h with h | h
              · have := HCB.out ht0; omega
              · rw [← HRC.out, ← hcp] at h; exact hlt2 h))
            have HCP := Lib.hid (show candP d i (t + 1) = candP d i t by show (candT d (finT d) i (t + 1)).1 = _; rw [HCT.out, hcp])
            have HBN := Lib.hid (fun W (h : BestAt lo d i t w W bv) => (show BestAt lo d i (t + 1) w W bv from by
              rcases h with ⟨h1, _⟩ | ⟨_, h2⟩
              · omega
              · refine .inr ⟨Nat.succ_pos _, ?_⟩
                rw [show headL8 d i (t + 1) = headL8 d i t by rw [headL8, headL8, HCT.out], HCT.out]
                exact h2))
            obtain ⟨cp, hcpe⟩ : ∃ cp, cp = candP d i t := ⟨_, rfl⟩
            rw [← hcpe] at hlt2 B0 HCP
            clear hcp hcpe
            go_wp2_with fail
            go_roundw
            case rel => exact ⟨t + 1, bv, by have := HK1.out; congr 1 <;> omega, by omega, C0, C1, R0, R1, RF5.out, by rw [HCP.out]; exact B0, B1, BF5.out, HBN.out _ (HBE.out.below HB5.out), HW.out.trans (HB5.out.mono HW.out.size), Nat.lt_of_lt_of_le hzr HB5.out.size⟩
            case measure => have := HK1.out; simp [intOf]; omega
      · have HP4b := Lib.hid (show BhAt w4 (w3.heap.size + 1) fk vk (i, i + t, bn) from by have := HP4.out; simpa using this)
        obtain ⟨W5, hW5⟩ : ∃ W5, W5 = (w4.setCell ⟨w3.heap.size, 0, none⟩ (.int .i64 R)).setCell ⟨w3.heap.size, 1, none⟩ (cloB (w3.heap.size + 1)) := ⟨_, rfl⟩
        have HB5 := Lib.hid (show RowKit.Below wr.heap.size wr W5 from by rw [hW5]; exact (HB4.out.setCell (p := ⟨w3.heap.size, 0, none⟩) HB3.out.size _).setCell (p := ⟨w3.heap.size, 1, none⟩) HB3.out.size _)
        have HP5 := Lib.hid (show BhAt W5 (w3.heap.size + 1) fk vk (i, i + t, bn) from by rw [hW5]; exact (HP4b.out.other (by omega) (by omega) _).other (by omega) (by omega) _)
        have e0 : W5.cell? ⟨w3.heap.size, 0, none⟩ = some (.int .i64 R) := by rw [hW5]; exact (set2_cells8 _ _ _ _ y0 y1).1
        have e1 : W5.cell? ⟨w3.heap.size, 1, none⟩ = some (cloB (w3.heap.size + 1)) := by rw [hW5]; exact (set2_cells8 _ _ _ _ y0 y1).2
        rw [← hW5]
        have hBq : wr.heap.size ≤ w3.heap.size + 1 := by have := HB3.out.size; omega
        have o0 : w.heap.size < wr.heap.size := by omega
        have o1 : w.heap.size + 1 < wr.heap.size := by omega
        have C0 := (HB5.out.cell (p := ⟨w.heap.size, 0, none⟩) o0).trans c0
        have C1 := (HB5.out.cell (p := ⟨w.heap.size, 1, none⟩) o0).trans c1
        have R0 := (HB5.out.cell (p := ⟨w.heap.size + 1, 0, none⟩) o1).trans r0
        have R1 := (HB5.out.cell (p := ⟨w.heap.size + 1, 1, none⟩) o1).trans r1
        have B0 := (HB5.out.cell (p := ⟨w.heap.size + 1 + 1, 0, none⟩) hzr).trans b0
        have B1 := (HB5.out.cell (p := ⟨w.heap.size + 1 + 1, 1, none⟩) hzr).trans b1
        have RF5 := Lib.hid (fun o => (HB5.out.frozen (p := ⟨w.heap.size + 1, o, none⟩) o1).trans (RF.out o))
        have BF5 := Lib.hid (fun o => (HB5.out.frozen (p := ⟨w.heap.size + 1 + 1, o, none⟩) hzr).trans (BF.out o))
        have bf0 := BF5.out 0
        have bf1 := BF5.out 1
        clear hW5 c0 c1 r0 r1 b0 b1 U0 U1
        rcases Nat.eq_zero_or_pos t with ht0 | ht0
        · have hts : ((i : Int) + t == (i : Int)) = true := by simp [ht0]
          have HCT := Lib.hid (HCY.out (.inl (by rw [ht0]; show (-1 : Int) < 0; omega)))
          have HCP := Lib.hid (show candP d i (t + 1) = R by show (candT d (finT d) i (t + 1)).1 = R; rw [HCT.out]; exact HRC.out.symm)
          have HBL := Lib.hid (show headL8 d i (t + 1) = (i, i + t, bn) ∧ finL d ((candT d (finT d) i (t + 1)).2 + 1) = finL d k1 from ⟨by rw [headL8, HCT.out, HBNE.out], by rw [HCT.out, HK1.out]⟩)
          clear ht0
          go_wp2_with fail
          go_roundw
          case rel =>
            have HW6 := ((HW.out.trans (HB5.out.mono HW.out.size)).setCell (p := ⟨w.heap.size + 1 + 1, 0, none⟩) (by show w.heap.size ≤ w.heap.size + 1 + 1; omega) (.int .i64 R)).setCell (p := ⟨w.heap.size + 1 + 1, 1, none⟩) (by show w.heap.size ≤ w.heap.size + 1 + 1; omega) (cloB (w3.heap.size + 1))
            have HS2 := set2_cells8 W5 (w.heap.size + 1 + 1) (.int .i64 R) (cloB (w3.heap.size + 1)) B0 B1
            have oc : ∀ bl o, bl ≠ w.heap.size + 1 + 1 → ((W5.setCell ⟨w.heap.size + 1 + 1, 0, none⟩ (.int .i64 R)).setCell ⟨w.heap.size + 1 + 1, 1, none⟩ (cloB (w3.heap.size + 1))).cell? ⟨bl, o, none⟩ = W5.cell? ⟨bl, o, none⟩ := fun bl o h => (World.cell?_setCell_other _ _ _ _ (fun e => h (congrArg Addr.block e).symm)).trans (World.cell?_setCell_other _ _ _ _ (fun e => h (congrArg Addr.block e).symm))
            refine ⟨t + 1, _, by have := HK1.out; congr 1 <;> omega, by omega, (oc _ _ (by omega)).trans C0, (oc _ _ (by omega)).trans C1, (oc _ _ (by omega)).trans R0, (oc _ _ (by omega)).trans R1, fun o => ?_, HS2.1.trans (by rw [HCP.out]), HS2.2, fun o => ?_, .inr ⟨Nat.succ_pos _, _, fk, vk, rfl, by omega, ?_, ?_⟩, HW6, ?_⟩
            · rw [World.frozen?_setCell, World.frozen?_setCell]; exact RF5.out o
            · rw [World.frozen?_setCell, World.frozen?_setCell]; exact BF5.out o
            · rw [HBL.out.1]
              exact (HP5.out.other (X := w.heap.size + 1 + 1) (o := 0) (by omega) (by omega) _).other (X := w.heap.size + 1 + 1) (o := 1) (by omega) (by omega) _
            · rw [HBL.out.2]
              exact HPUT.out
            · simpa [World.setCell] using Nat.lt_of_lt_of_le hzr HB5.out.size
          case measure => have := HK1.out; simp [intOf]; omega
        · have htn : ¬ ((i : Int) + t = (i : Int)) := by omega
          have htb : ((i : Int) + t == (i : Int)) = false := by simp; omega
          have hcp : candP d i t = (candT d (finT d) i t).1 := if_neg (by omega)
          by_cases hlt2 : R < candP d i t
          · have HCT := Lib.hid (HCY.out (.inr (by rw [← HRC.out, ← hcp]; exact hlt2)))
            have HCP := Lib.hid (show candP d i (t + 1) = R by show (candT d (finT d) i (t + 1)).1 = R; rw [HCT.out]; exact HRC.out.symm)
            have HBL := Lib.hid (show headL8 d i (t + 1) = (i, i + t, bn) ∧ finL d ((candT d (finT d) i (t + 1)).2 + 1) = finL d k1 from ⟨by rw [headL8, HCT.out, HBNE.out], by rw [HCT.out, HK1.out]⟩)
            obtain ⟨cp, hcpe⟩ : ∃ cp, cp = candP d i t := ⟨_, rfl⟩
            rw [← hcpe] at hlt2 B0
            clear hcp hcpe
            go_wp2_with fail
            go_roundw
            case rel =>
              have HW6 := ((HW.out.trans (HB5.out.mono HW.out.size)).setCell (p := ⟨w.heap.size + 1 + 1, 0, none⟩) (by show w.heap.size ≤ w.heap.size + 1 + 1; omega) (.int .i64 R)).setCell (p := ⟨w.heap.size + 1 + 1, 1, none⟩) (by show w.heap.size ≤ w.heap.size + 1 + 1; omega) (cloB (w3.heap.size + 1))
              have HS2 := set2_cells8 W5 (w.heap.size + 1 + 1) (.int .i64 R) (cloB (w3.heap.size + 1)) B0 B1
              have oc : ∀ bl o, bl ≠ w.heap.size + 1 + 1 → ((W5.setCell ⟨w.heap.size + 1 + 1, 0, none⟩ (.int .i64 R)).setCell ⟨w.heap.size + 1 + 1, 1, none⟩ (cloB (w3.heap.size + 1))).cell? ⟨bl, o, none⟩ = W5.cell? ⟨bl, o, none⟩ := fun bl o h => (World.cell?_setCell_other _ _ _ _ (fun e => h (congrArg Addr.block e).symm)).trans (World.cell?_setCell_other _ _ _ _ (fun e => h (congrArg Addr.block e).symm))
              refine ⟨t + 1, _, by have := HK1.out; congr 1 <;> omega, by omega, (oc _ _ (by omega)).trans C0, (oc _ _ (by omega)).trans C1, (oc _ _ (by omega)).trans R0, (oc _ _ (by omega)).trans R1, fun o => ?_, HS2.1.trans (by rw [HCP.out]), HS2.2, fun o => ?_, .inr ⟨Nat.succ_pos _, _, fk, vk, rfl, by omega, ?_, ?_⟩, HW6, ?_⟩
              · rw [World.frozen?_setCell, World.frozen?_setCell]; exact RF5.out o
              · rw [World.frozen?_setCell, World.frozen?_setCell]; exact BF5.out o
              · rw [HBL.out.1]
                exact (HP5.out.other (X := w.heap.size + 1 + 1) (o := 0) (by omega) (by omega) _).other (X := w.heap.size + 1 + 1) (o := 1) (by omega) (by omega) _
              · rw [HBL.out.2]
                exact HPUT.out
              · simpa [World.setCell] using Nat.lt_of_lt_of_le hzr HB5.out.size
            case measure => have := HK1.out; simp [intOf]; omega
          · have HCT := Lib.hid (HCN.out (by
              intro h
              rcases h with h | h
              · have := HCB.out ht0; omega
              · rw [← HRC.out, ← hcp] at h; exact hlt2 h))
            have HCP := Lib.hid (show candP d i (t + 1) = candP d i t by show (candT d (finT d) i (t + 1)).1 = _; rw [HCT.out, hcp])
            have HBN := Lib.hid (fun W (h : BestAt lo d i t w W bv) => (show BestAt lo d i (t + 1) w W bv from by
              rcases h with ⟨h1, _⟩ | ⟨_, h2⟩
              · omega
              · refine .inr ⟨Nat.succ_pos _, ?_⟩
                rw [show headL8 d i (t + 1) = headL8 d i t by rw [headL8, headL8, HCT.out], HCT.out]
                exact h2))
            obtain ⟨cp, hcpe⟩ : ∃ cp, cp = candP d i t := ⟨_, rfl⟩
            rw [← hcpe] at hlt2 B0 HCP
            clear hcp hcpe
            go_wp2_with fail
            go_roundw
            case rel => exact ⟨t + 1, bv, by have := HK1.out; congr 1 <;> omega, by omega, C0, C1, R0, R1, RF5.out, by rw [HCP.out]; exact B0, B1, BF5.out, HBN.out _ (HBE.out.below HB5.out), HW.out.trans (HB5.out.mono HW.out.size), Nat.lt_of_lt_of_le hzr HB5.out.size⟩
            case measure => have := HK1.out; simp [intOf]; omega
      · obtain ⟨W5, hW5⟩ : ∃ W5, W5 = (w4.setCell ⟨wr.heap.size, 0, none⟩ (.int .i64 R)).setCell ⟨wr.heap.size, 1, none⟩ (cloB w3.heap.size) := ⟨_, rfl⟩
        have HB5 := Lib.hid (show RowKit.Below wr.heap.size wr W5 from by rw [hW5]; exact (HB4.out.setCell (p := ⟨wr.heap.size, 0, none⟩) (Nat.le_refl _) _).setCell (p := ⟨wr.heap.size, 1, none⟩) (Nat.le_refl _) _)
        have HP5 := Lib.hid (show BhAt W5 (w3.heap.size) fk vk (i, i + t, bn) from by rw [hW5]; exact (HP4.out.other (by omega) (by omega) _).other (by omega) (by omega) _)
        have e0 : W5.cell? ⟨wr.heap.size, 0, none⟩ = some (.int .i64 R) := by rw [hW5]; exact (set2_cells8 _ _ _ _ y0 y1).1
        have e1 : W5.cell? ⟨wr.heap.size, 1, none⟩ = some (cloB (w3.heap.size)) := by rw [hW5]; exact (set2_cells8 _ _ _ _ y0 y1).2
        rw [← hW5]
        have hBq : wr.heap.size ≤ w3.heap.size := HB3.out.size
        have o0 : w.heap.size < wr.heap.size := by omega
        have o1 : w.heap.size + 1 < wr.heap.size := by omega
        have C0 := (HB5.out.cell (p := ⟨w.heap.size, 0, none⟩) o0).trans c0
        have C1 := (HB5.out.cell (p := ⟨w.heap.size, 1, none⟩) o0).trans c1
        have R0 := (HB5.out.cell (p := ⟨w.heap.size + 1, 0, none⟩) o1).trans r0
        have R1 := (HB5.out.cell (p := ⟨w.heap.size + 1, 1, none⟩) o1).trans r1
        have B0 := (HB5.out.cell (p := ⟨w.heap.size + 1 + 1, 0, none⟩) hzr).trans b0
        have B1 := (HB5.out.cell (p := ⟨w.heap.size + 1 + 1, 1, none⟩) hzr).trans b1
        have RF5 := Lib.hid (fun o => (HB5.out.frozen (p := ⟨w.heap.size + 1, o, none⟩) o1).trans (RF.out o))
        have BF5 := Lib.hid (fun o => (HB5.out.frozen (p := ⟨w.heap.size + 1 + 1, o, none⟩) hzr).trans (BF.out o))
        have bf0 := BF5.out 0
        have bf1 := BF5.out 1
        clear hW5 c0 c1 r0 r1 b0 b1 U0 U1
        rcases Nat.eq_zero_or_pos t with ht0 | ht0
        · have hts : ((i : Int) + t == (i : Int)) = true := by simp [ht0]
          have HCT := Lib.hid (HCY.out (.inl (by rw [ht0]; show (-1 : Int) < 0; omega)))
          have HCP := Lib.hid (show candP d i (t + 1) = R by show (candT d (finT d) i (t + 1)).1 = R; rw [HCT.out]; exact HRC.out.symm)
          have HBL := Lib.hid (show headL8 d i (t + 1) = (i, i + t, bn) ∧ finL d ((candT d (finT d) i (t + 1)).2 + 1) = finL d k1 from ⟨by rw [headL8, HCT.out, HBNE.out], by rw [HCT.out, HK1.out]⟩)
          clear ht0
          go_wp2_with fail
          go_roundw
          case rel =>
            have HW6 := ((HW.out.trans (HB5.out.mono HW.out.size)).setCell (p := ⟨w.heap.size + 1 + 1, 0, none⟩) (by show w.heap.size ≤ w.heap.size + 1 + 1; omega) (.int .i64 R)).setCell (p := ⟨w.heap.size + 1 + 1, 1, none⟩) (by show w.heap.size ≤ w.heap.size + 1 + 1; omega) (cloB (w3.heap.size))
            have HS2 := set2_cells8 W5 (w.heap.size + 1 + 1) (.int .i64 R) (cloB (w3.heap.size)) B0 B1
            have oc : ∀ bl o, bl ≠ w.heap.size + 1 + 1 → ((W5.setCell ⟨w.heap.size + 1 + 1, 0, none⟩ (.int .i64 R)).setCell ⟨w.heap.size + 1 + 1, 1, none⟩ (cloB (w3.heap.size))).cell? ⟨bl, o, none⟩ = W5.cell? ⟨bl, o, none⟩ := fun bl o h => (World.cell?_setCell_other _ _ _ _ (fun e => h (congrArg Addr.block e).symm)).trans (World.cell?_setCell_other _ _ _ _ (fun e => h (congrArg Addr.block e).symm))
            refine ⟨t + 1, _, by have := HK1.out; congr 1 <;> omega, by omega, (oc _ _ (by omega)).trans C0, (oc _ _ (by omega)).trans C1, (oc _ _ (by omega)).trans R0, (oc _ _ (by omega)).trans R1, fun o => ?_, HS2.1.trans (by rw [HCP.out]), HS2.2, fun o => ?_, .inr ⟨Nat.succ_pos _, _, fk, vk, rfl, by omega, ?_, ?_⟩, HW6, ?_⟩
            · rw [World.frozen?_setCell, World.frozen?_setCell]; exact RF5.out o
            · rw [World.frozen?_setCell, World.frozen?_setCell]; exact BF5.out o
            · rw [HBL.out.1]
              exact (HP5.out.other (X := w.heap.size + 1 + 1) (o := 0) (by omega) (by omega) _).other (X := w.heap.size + 1 + 1) (o := 1) (by omega) (by omega) _
            · rw [HBL.out.2]
              exact HPUT.out
            · simpa [World.setCell] using Nat.lt_of_lt_of_le hzr HB5.out.size
          case measure => have := HK1.out; simp [intOf]; omega
        · have htn : ¬ ((i : Int) + t = (i : Int)) := by omega
          have htb : ((i : Int) + t == (i : Int)) = false := by simp; omega
          have hcp : candP d i t = (candT d (finT d) i t).1 := if_neg (by omega)
          by_cases hlt2 : R < candP d i t
          · have HCT := Lib.hid (HCY.out (.inr (by rw [← HRC.out, ← hcp]; exact hlt2)))
            have HCP := Lib.hid (show candP d i (t + 1) = R by show (candT d (finT d) i (t + 1)).1 = R; rw [HCT.out]; exact HRC.out.symm)
            have HBL := Lib.hid (show headL8 d i (t + 1) = (i, i + t, bn) ∧ finL d ((candT d (finT d) i (t + 1)).2 + 1) = finL d k1 from ⟨by rw [headL8, HCT.out, HBNE.out], by rw [HCT.out, HK1.out]⟩)
            obtain ⟨cp, hcpe⟩ : ∃ cp, cp = candP d i t := ⟨_, rfl⟩
            rw [← hcpe] at hlt2 B0
            clear hcp hcpe
            go_wp2_with fail
            go_roundw
            case rel =>
              have HW6 := ((HW.out.trans (HB5.out.mono HW.out.size)).setCell (p := ⟨w.heap.size + 1 + 1, 0, none⟩) (by show w.heap.size ≤ w.heap.size + 1 + 1; omega) (.int .i64 R)).setCell (p := ⟨w.heap.size + 1 + 1, 1, none⟩) (by show w.heap.size ≤ w.heap.size + 1 + 1; omega) (cloB (w3.heap.size))
              have HS2 := set2_cells8 W5 (w.heap.size + 1 + 1) (.int .i64 R) (cloB (w3.heap.size)) B0 B1
              have oc : ∀ bl o, bl ≠ w.heap.size + 1 + 1 → ((W5.setCell ⟨w.heap.size + 1 + 1, 0, none⟩ (.int .i64 R)).setCell ⟨w.heap.size + 1 + 1, 1, none⟩ (cloB (w3.heap.size))).cell? ⟨bl, o, none⟩ = W5.cell? ⟨bl, o, none⟩ := fun bl o h => (World.cell?_setCell_other _ _ _ _ (fun e => h (congrArg Addr.block e).symm)).trans (World.cell?_setCell_other _ _ _ _ (fun e => h (congrArg Addr.block e).symm))
              refine ⟨t + 1, _, by have := HK1.out; congr 1 <;> omega, by omega, (oc _ _ (by omega)).trans C0, (oc _ _ (by omega)).trans C1, (oc _ _ (by omega)).trans R0, (oc _ _ (by omega)).trans R1, fun o => ?_, HS2.1.trans (by rw [HCP.out]), HS2.2, fun o => ?_, .inr ⟨Nat.succ_pos _, _, fk, vk, rfl, by omega, ?_, ?_⟩, HW6, ?_⟩
              · rw [World.frozen?_setCell, World.frozen?_setCell]; exact RF5.out o
              · rw [World.frozen?_setCell, World.frozen?_setCell]; exact BF5.out o
              · rw [HBL.out.1]
                exact (HP5.out.other (X := w.heap.size + 1 + 1) (o := 0) (by omega) (by omega) _).other (X := w.heap.size + 1 + 1) (o := 1) (by omega) (by omega) _
              · rw [HBL.out.2]
                exact HPUT.out
              · simpa [World.setCell] using Nat.lt_of_lt_of_le hzr HB5.out.size
            case measure => have := HK1.out; simp [intOf]; omega
          · have HCT := Lib.hid (HCN.out (by
              intro h
              rcases h with h | h
              · have := HCB.out ht0; omega
              · rw [← HRC.out, ← hcp] at h; exact hlt2 h))
            have HCP := Lib.hid (show candP d i (t + 1) = candP d i t by show (candT d (finT d) i (t + 1)).1 = _; rw [HCT.out, hcp])
            have HBN := Lib.hid (fun W (h : BestAt lo d i t w W bv) => (show BestAt lo d i (t + 1) w W bv from by
              rcases h with ⟨h1, _⟩ | ⟨_, h2⟩
              · omega
              · refine .inr ⟨Nat.succ_pos _, ?_⟩
                rw [show headL8 d i (t + 1) = headL8 d i t by rw [headL8, headL8, HCT.out], HCT.out]
                exact h2))
            obtain ⟨cp, hcpe⟩ : ∃ cp, cp = candP d i t := ⟨_, rfl⟩
            rw [← hcpe] at hlt2 B0 HCP
            clear hcp hcpe
            go_wp2_with fail
            go_roundw
            case rel => exact ⟨t + 1, bv, by have := HK1.out; congr 1 <;> omega, by omega, C0, C1, R0, R1, RF5.out, by rw [HCP.out]; exact B0, B1, BF5.out, HBN.out _ (HBE.out.below HB5.out), HW.out.trans (HB5.out.mono HW.out.size), Nat.lt_of_lt_of_le hzr HB5.out.size⟩
            case measure => have := HK1.out; simp [intOf]; omega
    · have hte : t = d.size - i := by omega
      have htp : 0 < t := by omega
      obtain ⟨fB, p, tv, rfl, hfB, hbh, hpt⟩ : ∃ B p tv, bv = cloB B ∧ w.heap.size + 2 < B ∧ BhAt wr B p tv (headL8 d i t) ∧ PutAt lo w (finL d ((candT d (finT d) i t).2 + 1)) tv := by
        rcases HBE.out with ⟨h1, _⟩ | ⟨_, h2⟩
        · omega
        · exact h2
      have HL := Lib.hid (show headL8 d i t :: finL d ((candT d (finT d) i t).2 + 1) = finL d i by rw [headL8, hte, ← HFS.out, HFC.out])
      have HCP := Lib.hid (show candP d i t = (finT d i).1 by rw [candP, if_neg (by omega), hte, ← HFS.out])
      have HBH := Lib.hid hbh
      have HPT := Lib.hid hpt
      have rf0 := RF.out 0
      have rf1 := RF.out 1
      have hkl : ¬ (i : Int) + t < (d.size : Int) := by omega
      obtain ⟨P, hP⟩ : ∃ P, P = candP d i t := ⟨_, rfl⟩
      rw [← hP] at b0 HCP
      clear hbh hpt hte htp hP
      go_wp2_with fail
      have HS2 := set2_cells8 wr (w.heap.size + 1) (.int .i64 P) (cloB fB) r0 r1
      have HW6 := (HW.out.setCell (p := ⟨w.heap.size + 1, 0, none⟩) (by show w.heap.size ≤ w.heap.size + 1; omega) (.int .i64 P)).setCell (p := ⟨w.heap.size + 1, 1, none⟩) (by show w.heap.size ≤ w.heap.size + 1; omega) (cloB fB)
      refine bodyPost_ret (v := .agg #[.int .i64 P, cloB fB]) (by simp [results, Tryz.results90, go_sem, HS2]) rfl ⟨cloB fB, by rw [HCP.out], ?_, HW6⟩
      rw [← HL.out]
      exact ((HBH.out.other (X := w.heap.size + 1) (o := 0) (by omega) (by omega) _).other (X := w.heap.size + 1) (o := 1) (by omega) (by omega) _).put (by omega) (HPT.out.below HW6)
/-- The tails from a case on lie in their row. -/
structure TailsIn (d : Array CaseD) (w : World) (G m : Nat) : Prop where
  lt : G < w.heap.size
  froz : ∀ o, w.frozen? ⟨G, o, none⟩ = false
  any : ∀ o, o < (d.size + 1) * 2 → ∃ u, w.cell? ⟨G, o, none⟩ = some u
  at' : ∀ j, d.size ≤ j + m → j ≤ d.size → ∃ v, w.cell? ⟨G, j * 2, none⟩ = some (.int .i64 (finT d j).1) ∧ w.cell? ⟨G, j * 2 + 1, none⟩ = some v ∧ PutAt (G + 1) w (finL d j) v
theorem TailsIn.below {d : Array CaseD} {w w' : World} {G m : Nat} (h : TailsIn d w G m) (hb : RowKit.Below w.heap.size w w') : TailsIn d w' G m :=
  ⟨Nat.lt_of_lt_of_le h.lt hb.size, fun o => (hb.frozen (p := ⟨G, o, none⟩) h.lt).trans (h.froz o), fun o ho => by
    obtain ⟨u, hu⟩ := h.any o ho
    exact ⟨u, (hb.cell (p := ⟨G, o, none⟩) h.lt).trans hu⟩, fun j h1 h2 => by
    obtain ⟨v, a, b, c⟩ := h.at' j h1 h2
    exact ⟨v, (hb.cell (p := ⟨G, j * 2, none⟩) h.lt).trans a, (hb.cell (p := ⟨G, j * 2 + 1, none⟩) h.lt).trans b, c.below hb⟩⟩
theorem TailsIn.set {d : Array CaseD} {w : World} {G m i : Nat} (h : TailsIn d w G m) (hi : i < d.size) (hm : d.size = i + m + 1) {v : Value} (hv : PutAt (G + 1) w (finL d i) v) :
    TailsIn d ((w.setCell ⟨G, i * 2, none⟩ (.int .i64 (finT d i).1)).setCell ⟨G, i * 2 + 1, none⟩ v) G (m + 1) := by
  obtain ⟨u0, hu0⟩ := h.any (i * 2) (by omega)
  obtain ⟨u1, hu1⟩ := h.any (i * 2 + 1) (by omega)
  have same : ∀ (W : World) (x y : Nat) (u : Value), x ≠ y → (W.setCell ⟨G, x, none⟩ u).cell? ⟨G, y, none⟩ = W.cell? ⟨G, y, none⟩ := fun W x y u hxy => World.cell?_setCell_other _ _ _ _ (fun e => hxy (by cases e; rfl))
  have q1 : ((w.setCell ⟨G, i * 2, none⟩ (.int .i64 (finT d i).1)).setCell ⟨G, i * 2 + 1, none⟩ v).cell? ⟨G, i * 2 + 1, none⟩ = some v := World.cell?_setCell_same _ _ _ ((same _ _ _ _ (by omega)).trans hu1)
  have q0 : ((w.setCell ⟨G, i * 2, none⟩ (.int .i64 (finT d i).1)).setCell ⟨G, i * 2 + 1, none⟩ v).cell? ⟨G, i * 2, none⟩ = some (.int .i64 (finT d i).1) := (same _ _ _ _ (by omega)).trans (World.cell?_setCell_same _ _ _ hu0)
  refine ⟨by simpa [World.setCell] using h.lt, fun o => by rw [World.frozen?_setCell, World.frozen?_setCell]; exact h.froz o, fun o ho => ?_, fun j h1 h2 => ?_⟩
  · by_cases e1 : o = i * 2 + 1
    · subst e1
      exact ⟨v, q1⟩
    · by_cases e0 : o = i * 2
      · subst e0
        exact ⟨_, q0⟩
      · obtain ⟨u, hu⟩ := h.any o ho
        exact ⟨u, (same _ _ _ _ (Ne.symm e1)).trans ((same _ _ _ _ (Ne.symm e0)).trans hu)⟩
  · by_cases e : j = i
    · subst e
      exact ⟨v, q0, q1, (hv.other (Nat.lt_succ_self _) _).other (Nat.lt_succ_self _) _⟩
    · have hj1 : d.size ≤ j + m := by omega
      obtain ⟨v', a, b, c⟩ := h.at' j hj1 h2
      exact ⟨v', (same _ _ _ _ (by omega)).trans ((same _ _ _ _ (by omega)).trans a), (same _ _ _ _ (by omega)).trans ((same _ _ _ _ (by omega)).trans b), (c.other (Nat.lt_succ_self _) _).other (Nat.lt_succ_self _) _⟩
theorem run_mkT8 (n : Nat) (hn : n ≤ 1000) (W : World) :
    (Instr.makeSlice 135 (.int .i64 (n : Int)) (.int .i64 (n : Int))).run Tryz.prog W = .ok (.slice (some ⟨W.heap.size, 0, none⟩) n n) (W.alloc (.cells (madeCells #[.int .i64 0, .nilFunc] (n * 2)) 100)) := by
  obtain ⟨i0, hi, hz0, hz1, hz2⟩ := info_parts (show (Tryz.prog.info? 100).map (fun i => (i.zero, i.size, i.bytes)) = some (some (.agg #[.int .i64 0, .nilFunc]), 2, 16) by kernel_rfl)
  have h := run_make (P := Tryz.prog) W 135 100 i0 _ Tryz.underlying135 hi hz0 .i64 .i64 (n : Int) (n : Int) (by omega) (by omega) (by rw [hz2]; omega) (by omega)
  rw [hz1] at h
  simp only [Int.toNat_natCast] at h
  exact h
set_option maxRecDepth 100000 in
set_option maxHeartbeats 4000000 in
theorem bestTail_any (b off cap : Nat) (d : Array CaseD) (rest : Int) (w : World) (hR : RowC w b off d) (hE : ErrAt w) (hcap : d.size ≤ cap) (hmax : cap ≤ maxLen) (hok : SwOK d rest) :
    Calls Tryz.prog 63 #[.agg #[.slice (some ⟨b, off, none⟩) d.size cap, .int .i64 rest]] w fun x w' => ∃ v, x = .returned (.agg #[.int .i64 (finT d 0).1, v]) ∧ PutAt 0 w' (finL d 0) v ∧ RowKit.Below w.heap.size w w' := by
  have HTF := Lib.hid (fun lo i G W (hW : RowKit.Below w.heap.size w W) (hi : i < d.size) hG hlo hT => tailFrom_any lo b off cap d rest i G W (hR.below hW) (hE.below hW) hcap hmax hok hi hG hlo hT)
  have h8 := hok.size
  have h8i : (d.size : Int) ≤ 8 := by omega
  have HFB := Lib.hid (fun j hj => finT_bound hok j hj)
  have HFC0 := Lib.hid (fun (i : Nat) (hi : i < d.size) => finL_cons hok hi)
  have hmk := fun W => run_mkT8 (d.size + 1) (by omega) W
  simp only [Int.natCast_add, Int.natCast_one] at hmk
  have hsf := fun (ad : Addr) (fn : Fn) (fi ca : Array Value) (W : World) => run_store Tryz.prog W ad (.func fn fi ca) .plain rfl
  clear hR hE hmax hok
  go_enter Tryz.func63, Tryz.ntmps63
  go_upto_region 2 with fail
  obtain ⟨wa, hwa⟩ : ∃ wa, wa = ((w.alloc (.cells #[.slice (some ⟨b, off, none⟩) d.size cap, .int .i64 rest] 32)).alloc (.cells #[.int .i64 0, .nilFunc] 100)).alloc (.cells (madeCells #[.int .i64 0, .nilFunc] ((d.size + 1) * 2)) 100) := ⟨_, rfl⟩
  have hba : RowKit.Below w.heap.size w wa := by rw [hwa]; exact (((Below.refl _ _).alloc (Nat.le_refl _) _).alloc (by simp) _).alloc (by simp; omega) _
  have c0 : wa.cell? ⟨w.heap.size, 0, none⟩ = some (.slice (some ⟨b, off, none⟩) d.size cap) := by rw [hwa]; simp [go_sem]
  have c1 : wa.cell? ⟨w.heap.size, 1, none⟩ = some (.int .i64 rest) := by rw [hwa]; simp [go_sem]
  have r0 : wa.cell? ⟨w.heap.size + 1, 0, none⟩ = some (.int .i64 0) := by rw [hwa]; simp [go_sem]
  have r1 : wa.cell? ⟨w.heap.size + 1, 1, none⟩ = some .nilFunc := by rw [hwa]; simp [go_sem]
  have rf : ∀ j, wa.frozen? ⟨w.heap.size + 1, j, none⟩ = false := fun j => by rw [hwa]; simp [go_sem]
  have tm : ∀ o, o < (d.size + 1) * 2 → wa.cell? ⟨w.heap.size + 1 + 1, o, none⟩ = some (#[Value.int .i64 0, Value.nilFunc][o % 2]!) := fun o ho => by
    rw [hwa]
    simp [go_sem, madeCells, ho]
  have tf : ∀ j, wa.frozen? ⟨w.heap.size + 1 + 1, j, none⟩ = false := fun j => by rw [hwa]; simp [go_sem]
  have hz : w.heap.size + 1 + 1 < wa.heap.size := by rw [hwa]; simp
  have t0 : wa.cell? ⟨w.heap.size + 1 + 1, d.size * 2, none⟩ = some (.int .i64 0) := by rw [tm _ (by omega), show d.size * 2 % 2 = 0 by omega]; rfl
  have t1 : wa.cell? ⟨w.heap.size + 1 + 1, d.size * 2 + 1, none⟩ = some .nilFunc := by rw [tm _ (by omega), show (d.size * 2 + 1) % 2 = 1 by omega]; rfl
  have tf0 := tf (d.size * 2)
  have tf1 := tf (d.size * 2 + 1)
  have HTM := Lib.hid tm
  have HTF2 := Lib.hid tf
  have HBA := Lib.hid hba
  have HRF := Lib.hid rf
  rw [← hwa]
  clear hwa hba tm tf rf hmk
  go_wp2_with fail
  have same : ∀ (W : World) (x y : Nat) (u : Value), x ≠ y → (W.setCell ⟨w.heap.size + 1 + 1, x, none⟩ u).cell? ⟨w.heap.size + 1 + 1, y, none⟩ = W.cell? ⟨w.heap.size + 1 + 1, y, none⟩ := fun W x y u hxy => World.cell?_setCell_other _ _ _ _ (fun e => hxy (by cases e; rfl))
  have HTI := Lib.hid (show TailsIn d ((wa.setCell ⟨w.heap.size + 1 + 1, d.size * 2, none⟩ (.int .i64 0)).setCell ⟨w.heap.size + 1 + 1, d.size * 2 + 1, none⟩ (.func (.func 89) #[] #[])) (w.heap.size + 1 + 1) 0 from
    ⟨by simpa [World.setCell] using hz, fun o => by rw [World.frozen?_setCell, World.frozen?_setCell]; exact HTF2.out o, fun o ho => by
      by_cases e1 : o = d.size * 2 + 1
      · subst e1; exact ⟨_, World.cell?_setCell_same _ _ _ ((same _ _ _ _ (by omega)).trans t1)⟩
      · by_cases e0 : o = d.size * 2
        · subst e0; exact ⟨_, (same _ _ _ _ (by omega)).trans (World.cell?_setCell_same _ _ _ t0)⟩
        · exact ⟨_, (same _ _ _ _ (Ne.symm e1)).trans ((same _ _ _ _ (Ne.symm e0)).trans (HTM.out o ho))⟩,
      fun j h1 h2 => by
      obtain rfl : j = d.size := by omega
      refine ⟨.func (.func 89) #[] #[], ?_, World.cell?_setCell_same _ _ _ ((same _ _ _ _ (by omega)).trans t1), ?_⟩
      · rw [(HFB.out d.size (Nat.le_refl _)).2.2.2 rfl]
        exact (same _ _ _ _ (by omega)).trans (World.cell?_setCell_same _ _ _ t0)
      · rw [finL_end (Nat.le_refl _)]
        rfl⟩)
  have hn0 : w.heap.size ≠ w.heap.size + 1 + 1 := by omega
  have hn1 : w.heap.size + 1 ≠ w.heap.size + 1 + 1 := by omega
  have oc : ∀ bl o, bl ≠ w.heap.size + 1 + 1 → ((wa.setCell ⟨w.heap.size + 1 + 1, d.size * 2, none⟩ (.int .i64 0)).setCell ⟨w.heap.size + 1 + 1, d.size * 2 + 1, none⟩ (.func (.func 89) #[] #[])).cell? ⟨bl, o, none⟩ = wa.cell? ⟨bl, o, none⟩ := fun bl o h => (World.cell?_setCell_other _ _ _ _ (fun e => h (congrArg Addr.block e).symm)).trans (World.cell?_setCell_other _ _ _ _ (fun e => h (congrArg Addr.block e).symm))
  have C0 := (oc _ 0 hn0).trans c0
  have C1 := (oc _ 1 hn0).trans c1
  have R0 := (oc _ 0 hn1).trans r0
  have R1 := (oc _ 1 hn1).trans r1
  have RF := Lib.hid (show ∀ o, ((wa.setCell ⟨w.heap.size + 1 + 1, d.size * 2, none⟩ (.int .i64 0)).setCell ⟨w.heap.size + 1 + 1, d.size * 2 + 1, none⟩ (.func (.func 89) #[] #[])).frozen? ⟨w.heap.size + 1, o, none⟩ = false from fun o => by rw [World.frozen?_setCell, World.frozen?_setCell]; exact HRF.out o)
  have HWB := Lib.hid ((HBA.out.setCell (p := ⟨w.heap.size + 1 + 1, d.size * 2, none⟩) (by show w.heap.size ≤ w.heap.size + 1 + 1; omega) (.int .i64 0)).setCell (p := ⟨w.heap.size + 1 + 1, d.size * 2 + 1, none⟩) (by show w.heap.size ≤ w.heap.size + 1 + 1; omega) (.func (.func 89) #[] #[]))
  have hzb : w.heap.size + 1 + 1 < ((wa.setCell ⟨w.heap.size + 1 + 1, d.size * 2, none⟩ (.int .i64 0)).setCell ⟨w.heap.size + 1 + 1, d.size * 2 + 1, none⟩ (.func (.func 89) #[] #[])).heap.size := by simpa [World.setCell] using hz
  obtain ⟨wb, hwb⟩ : ∃ wb, wb = (wa.setCell ⟨w.heap.size + 1 + 1, d.size * 2, none⟩ (.int .i64 0)).setCell ⟨w.heap.size + 1 + 1, d.size * 2 + 1, none⟩ (.func (.func 89) #[] #[]) := ⟨_, rfl⟩
  rw [← hwb] at HTI C0 C1 R0 R1 RF HWB hzb ⊢
  clear hwb oc same c0 c1 r0 r1 t0 t1 tf0 tf1 HTM HTF2 HRF HBA hz
  go_loopw [4] (fun x wr => ∃ m : Nat, x = .int .i64 ((d.size : Int) - 1 - m) ∧ m ≤ d.size ∧ wr.cell? ⟨w.heap.size, 0, none⟩ = some (.slice (some ⟨b, off, none⟩) d.size cap) ∧ wr.cell? ⟨w.heap.size, 1, none⟩ = some (.int .i64 rest) ∧
    wr.cell? ⟨w.heap.size + 1, 0, none⟩ = some (.int .i64 0) ∧ wr.cell? ⟨w.heap.size + 1, 1, none⟩ = some .nilFunc ∧ Hid (∀ o, wr.frozen? ⟨w.heap.size + 1, o, none⟩ = false) ∧ Hid (TailsIn d wr (w.heap.size + 1 + 1) m) ∧
    Hid (RowKit.Below w.heap.size w wr) ∧ w.heap.size + 1 + 1 < wr.heap.size) (fun x _ => (intOf x + 1).toNat)
  case atStart => exact ⟨0, by simp, Nat.zero_le _, C0, C1, R0, R1, RF.out, HTI.out, HWB.out, hzb⟩
  case round =>
    obtain ⟨m, rfl, hm, c0, c1, r0, r1, RF, TI, HW, hzr⟩ := hrel
    by_cases hlt : m < d.size
    · obtain ⟨i, hi⟩ : ∃ i : Nat, i = d.size - 1 - m := ⟨_, rfl⟩
      have hi2 : (d.size : Int) - 1 - m = (i : Int) := by omega
      have hin : i < d.size := by omega
      have HI2 := Lib.hid hi2
      rw [hi2]
      have HCL := Lib.hid (HTF.out (w.heap.size + 1 + 1 + 1) i (w.heap.size + 1 + 1) wr HW.out hin hzr hzr (fun j h1 h2 => TI.out.at' j (by omega) h2))
      have HFC := Lib.hid (HFC0.out i hin)
      have hii : (i : Int) < (d.size : Int) + 1 := by omega
      have hid : d.size = i + m + 1 := by omega
      have HID := Lib.hid hid
      obtain ⟨P, hP⟩ : ∃ P, P = (finT d i).1 := ⟨_, rfl⟩
      rw [← hP] at HCL
      have HPE := Lib.hid hP
      clear hi hi2 hid hP
      go_wp2_with (go_at_call 90; refine HCL.out.mono ?_; rintro y w2 ⟨v, rfl, hput, hb⟩; have HPU := Lib.hid hput; rw [HFC.out] at hput; obtain ⟨fB, fC, rfl⟩ := put_form8 hput; have HB2 := Lib.hid hb; have T2 := Lib.hid (TI.out.below hb); obtain ⟨u0, hu0⟩ := T2.out.any (i * 2) (by omega); obtain ⟨u1, hu1⟩ := T2.out.any (i * 2 + 1) (by omega); have ff0 := T2.out.froz (i * 2); have ff1 := T2.out.froz (i * 2 + 1); clear hput hb)
      go_roundw
      case rel =>
        have hb := HB2.out
        have T3 := T2.out.set hin (m := m) HID.out HPU.out
        rw [← HPE.out] at T3
        have HW6 := ((HW.out.trans (hb.mono HW.out.size)).setCell (p := ⟨w.heap.size + 1 + 1, i * 2, none⟩) (by show w.heap.size ≤ w.heap.size + 1 + 1; omega) (.int .i64 P)).setCell (p := ⟨w.heap.size + 1 + 1, i * 2 + 1, none⟩) (by show w.heap.size ≤ w.heap.size + 1 + 1; omega) (.func (.func 112) #[] #[.pointer (some ⟨fB, 0, none⟩), .pointer (some ⟨fC, 0, none⟩)])
        have oc : ∀ bl o, bl ≠ w.heap.size + 1 + 1 → ((w2.setCell ⟨w.heap.size + 1 + 1, i * 2, none⟩ (.int .i64 P)).setCell ⟨w.heap.size + 1 + 1, i * 2 + 1, none⟩ (.func (.func 112) #[] #[.pointer (some ⟨fB, 0, none⟩), .pointer (some ⟨fC, 0, none⟩)])).cell? ⟨bl, o, none⟩ = w2.cell? ⟨bl, o, none⟩ := fun bl o h => (World.cell?_setCell_other _ _ _ _ (fun e => h (congrArg Addr.block e).symm)).trans (World.cell?_setCell_other _ _ _ _ (fun e => h (congrArg Addr.block e).symm))
        have l0 : w.heap.size < wr.heap.size := by omega
        have l1 : w.heap.size + 1 < wr.heap.size := by omega
        refine ⟨m + 1, by have := HI2.out; congr 1 <;> omega, by omega, (oc _ _ (by omega)).trans ((hb.cell (p := ⟨w.heap.size, 0, none⟩) l0).trans c0), (oc _ _ (by omega)).trans ((hb.cell (p := ⟨w.heap.size, 1, none⟩) l0).trans c1), (oc _ _ (by omega)).trans ((hb.cell (p := ⟨w.heap.size + 1, 0, none⟩) l1).trans r0), (oc _ _ (by omega)).trans ((hb.cell (p := ⟨w.heap.size + 1, 1, none⟩) l1).trans r1), fun o => ?_, T3, HW6, ?_⟩
        · rw [World.frozen?_setCell, World.frozen?_setCell]; exact (hb.frozen (p := ⟨w.heap.size + 1, o, none⟩) l1).trans (RF.out o)
        · simpa [World.setCell] using Nat.lt_of_lt_of_le hzr hb.size
      case measure => simp [intOf] <;> omega
    · have hme : m = d.size := by omega
      subst hme
      have hneg : ¬ (0 : Int) ≤ (d.size : Int) - 1 - (d.size : Int) := by omega
      obtain ⟨v, u0, u1, hput⟩ := TI.out.at' 0 (by omega) (by omega)
      have HPU := Lib.hid hput
      have hone : v.oneCell' = true := put_one8 hput
      have hst := fun (ad : Addr) (W : World) => run_store Tryz.prog W ad v .plain hone
      have rf0 := RF.out 0
      have rf1 := RF.out 1
      obtain ⟨P, hP⟩ : ∃ P, P = (finT d 0).1 := ⟨_, rfl⟩
      rw [← hP] at u0
      have HPE := Lib.hid hP
      simp only [Nat.zero_mul, Nat.zero_add] at u0 u1
      clear hput hP
      go_wp2_with fail
      have HS2 := set2_cells8 wr (w.heap.size + 1) (.int .i64 P) v r0 r1
      have HW6 := (HW.out.setCell (p := ⟨w.heap.size + 1, 0, none⟩) (by show w.heap.size ≤ w.heap.size + 1; omega) (.int .i64 P)).setCell (p := ⟨w.heap.size + 1, 1, none⟩) (by show w.heap.size ≤ w.heap.size + 1; omega) v
      refine bodyPost_ret (v := .agg #[.int .i64 P, v]) (by simp [results, Tryz.results63, go_sem, HS2]) rfl ⟨v, by rw [HPE.out], ((HPU.out.other (Nat.lt_succ_of_lt (Nat.lt_succ_self _)) _).other (Nat.lt_succ_of_lt (Nat.lt_succ_self _)) _).zero, HW6⟩
end Go.Proofs.YtjpcpiffffobcaaGreatDoor
