
/- The program's map of prices by kind, and PriceOf. · PlanValid: the program's and the model's. -/
import Derived.Test.YtjpcpiffffobcaaGreatDoorKsCheap
import Derived.Test.YtjpcpiffffobcaaGreatDoorKsPriS
import Derived.Test.YtjpcpiffffobcaaGreatDoorKsClu
import Derived.ChangeMaps4
import Derived.WideMake
import Derived.Deep.RegionHeld3
namespace Go.Proofs.YtjpcpiffffobcaaGreatDoor
open Go.RowKit Go.Shelf Go.Lib Go.Sort

/-- A kind's price as a value. -/
def funK (j : Nat) : Value := .func (.method "loop.example/keyswitches/impl.price") #[.iface (kindT8 j) (.agg #[])] #[]
def entK : Nat → Array MapEntry
  | 0 => #[]
  | 1 => #[⟨.string testN8, funK 0, 0⟩]
  | 2 => #[⟨.string testN8, funK 0, 0⟩, ⟨.string tableN8, funK 1, 1⟩]
  | _ => #[⟨.string testN8, funK 0, 0⟩, ⟨.string tableN8, funK 1, 1⟩, ⟨.string bitsN8, funK 2, 2⟩]
theorem find_new : ∀ j, j < 3 → Instr.findNow .string (.string (nameK j)) (entK j).toList 0 = some none
  | 0, _ => rfl
  | 1, _ => rfl
  | 2, _ => rfl
theorem entK_push : ∀ j, j < 3 → (entK j).push ⟨.string (nameK j), funK j, j⟩ = entK (j + 1)
  | 0, _ => rfl
  | 1, _ => rfl
  | 2, _ => rfl
theorem mapP : Tryz.prog.underlying 90 = some (.map 9 88) := by kernel_rfl
theorem push_run (W : World) (M j : Nat) (hj : j < 3) (hM : W.heap[M]? = some (.map (entK j) j)) :
    (Instr.mapUpdate 90 (.map (some M)) (.string (nameK j)) (funK j)).run Tryz.prog W = .ok () (ChangeMaps.setBlock W M (.map (entK (j + 1)) (j + 1))) := by
  have hk : Tryz.prog.underlying 9 = some .string := Tryz.underlying9
  have hkey : MapKept.IsKey .string (.string (nameK j)) := trivial
  have h1 := find_new j hj
  rw [← entK_push j hj]
  simp [Instr.mapUpdate, run_underlying mapP, MapKept.run_getObj_map hM, MapKept.run_checkKey hk hkey, MapKept.run_findKey hk h1, MapKept.run_setObj_map _ hM, Result.andThen, ChangeMaps.setBlock]
theorem look_run (W : World) (M : Nat) (K : ByteArray) (hM : W.heap[M]? = some (.map (entK 3) 3)) :
    (Instr.lookup 90 (.map (some M)) (.string K) true).run Tryz.prog W = .ok (if K = testN8 then .tuple #[funK 0, .bool true] else if K = tableN8 then .tuple #[funK 1, .bool true] else if K = bitsN8 then .tuple #[funK 2, .bool true] else .tuple #[.nilFunc, .bool false]) W := by
  have hk : Tryz.prog.underlying 9 = some .string := Tryz.underlying9
  have hkey : MapKept.IsKey .string (.string K) := trivial
  have hzv : (zeroValue 88).run Tryz.prog W = .ok .nilFunc W := by kernel_rfl
  by_cases h1 : K = testN8
  · have hf : Instr.findNow .string (.string K) (entK 3).toList 0 = some (some (0, funK 0)) := by subst h1; rfl
    rw [if_pos h1]
    simp [Instr.lookup, run_underlying mapP, MapKept.run_getObj_map hM, MapKept.run_checkKey hk hkey, MapKept.run_findKey hk hf, Result.andThen]
  · by_cases h2 : K = tableN8
    · have hf : Instr.findNow .string (.string K) (entK 3).toList 0 = some (some (1, funK 1)) := by subst h2; rfl
      rw [if_neg h1, if_pos h2]
      simp [Instr.lookup, run_underlying mapP, MapKept.run_getObj_map hM, MapKept.run_checkKey hk hkey, MapKept.run_findKey hk hf, Result.andThen]
    · by_cases h3 : K = bitsN8
      · have hf : Instr.findNow .string (.string K) (entK 3).toList 0 = some (some (2, funK 2)) := by subst h3; rfl
        rw [if_neg h1, if_neg h2, if_pos h3]
        simp [Instr.lookup, run_underlying mapP, MapKept.run_getObj_map hM, MapKept.run_checkKey hk hkey, MapKept.run_findKey hk hf, Result.andThen]
      · have hf : Instr.findNow .string (.string K) (entK 3).toList 0 = some none := by
          have b1 : (K == testN8) = false := Bool.eq_false_iff.2 fun h => h1 ((MapKept.bytes_beq _ _).1 h)
          have b2 : (K == tableN8) = false := Bool.eq_false_iff.2 fun h => h2 ((MapKept.bytes_beq _ _).1 h)
          have b3 : (K == bitsN8) = false := Bool.eq_false_iff.2 fun h => h3 ((MapKept.bytes_beq _ _).1 h)
          simp [entK, Instr.findNow, Instr.sameNow, b1, b2, b3]
        rw [if_neg h1, if_neg h2, if_neg h3]
        simp [Instr.lookup, run_underlying mapP, MapKept.run_getObj_map hM, MapKept.run_checkKey hk hkey, MapKept.run_findKey hk hf, Result.andThen, hzv]
theorem below_setBlock {B : Nat} {a w' : World} (h : RowKit.Below B a w') {M : Nat} (hM : B ≤ M) (o : Obj) : RowKit.Below B a (ChangeMaps.setBlock w' M o) :=
  ⟨h.os, h.tape, h.output, by simpa [ChangeMaps.setBlock] using h.size, fun b hb => by
    rw [← h.block b hb]
    show (w'.heap.setIfInBounds M o)[b]? = _
    rw [Array.getElem?_setIfInBounds_ne (by omega)]⟩
theorem heap_setBlock {w : World} {M : Nat} (hM : M < w.heap.size) (o : Obj) : (ChangeMaps.setBlock w M o).heap[M]? = some o := by
  show (w.heap.setIfInBounds M o)[M]? = _
  simp [hM]
theorem cell_setBlock {w : World} {M b : Nat} (h : M ≠ b) (o : Obj) (off : Nat) : (ChangeMaps.setBlock w M o).cell? ⟨b, off, none⟩ = w.cell? ⟨b, off, none⟩ :=
  World.cell?_of_block (show (w.heap.setIfInBounds M o)[b]? = _ from Array.getElem?_setIfInBounds_ne h)
/-- The j-th kind's name, through the interface. -/
theorem nameAs_all : ∀ j, j < 3 → ∃ g2, (∀ W, Sem.run Tryz.prog (nilAhead 328 (kindT8 j) (.agg #[]) "loop.example/keyswitches/impl.price") W = .ok (some false) W) ∧
    (∀ W, Sem.run Tryz.prog (method 328 (kindT8 j) (.agg #[]) "loop.example/keyswitches/impl.name") W = .ok (g2, .agg #[]) W) ∧ (∀ args W, (callFunc g2 args).run Tryz.prog W = .ok (.enter g2 args) W) ∧
    ∀ W, Calls Tryz.prog g2 #[.agg #[]] W fun x w' => x = .returned (.string (nameK j)) ∧ RowKit.Below W.heap.size W w'
  | 0, _ => ⟨152, nil_t, inv_tn, enters_of Tryz.func152 (by kernel_rfl) rfl, testName_any⟩
  | 1, _ => ⟨155, nil_b, inv_bn, enters_of Tryz.func155 (by kernel_rfl) rfl, tableName_any⟩
  | 2, _ => ⟨157, nil_c, inv_cn, enters_of Tryz.func157 (by kernel_rfl) rfl, bitsName_any⟩
theorem wpList_makeMap8 {P : Program} {ops : Array Oper} {rest : List Oper} {o : Oper} {a : Act} {w : World} {Q : Exit → Act → World → Prop} (hgd : o.guard = none) (t : TypeId) (ho : o.op = .makeMap t none) (h : wpList P ops Q rest (a.put o.dst (.map (some w.heap.size))) (w.alloc (.map #[] 0))) : wpList P ops Q (o :: rest) a w :=
  wpList_plain hgd fun K hK => by
    unfold Oper.wp execOp
    simp [ho, run_makeMap_plain, Result.andThen, Oper.upon]
    exact hK _ _ h
set_option maxRecDepth 100000 in
set_option maxHeartbeats 4000000 in
theorem pricings_any (w : World) : Calls Tryz.prog 56 #[] w fun x w' => x = .returned (.map (some w.heap.size)) ∧ w.heap.size < w'.heap.size ∧ w'.heap[w.heap.size]? = some (.map (entK 3) 3) ∧ RowKit.Below w.heap.size w w' := by
  go_enter Tryz.func56, Tryz.ntmps56
  go_wp2_with (first
    | (refine wpList_makeMap8 rfl 90 rfl ?_)
    | (go_at_call 81; refine (kinds_any _).mono ?_; rintro y w1 ⟨rfl, rfl⟩))
  obtain ⟨wa, hwa⟩ : ∃ wa, wa = (w.alloc (.map #[] 0)).alloc (.cells #[.iface 148 (.agg #[]), .iface 149 (.agg #[]), .iface 150 (.agg #[])] 123) := ⟨_, rfl⟩
  have hba : RowKit.Below w.heap.size w wa := by rw [hwa]; exact ((Below.refl _ _).alloc (Nat.le_refl _) _).alloc (by simp) _
  have hm : wa.heap[w.heap.size]? = some (.map (entK 0) 0) := by
    rw [hwa]
    show ((w.heap.push (.map #[] 0)).push _)[w.heap.size]? = _
    rw [Array.getElem?_push_lt (by simp), Array.getElem_push_eq]
    rfl
  have hz : w.heap.size + 1 < wa.heap.size := by rw [hwa]; simp
  have k0 : ∀ j, j < 3 → wa.cell? ⟨w.heap.size + 1, j, none⟩ = some (.iface (kindT8 j) (.agg #[])) := fun j hj => by
    match j, hj with
    | 0, _ => rw [hwa]; simp [go_sem, kindT8]
    | 1, _ => rw [hwa]; simp [go_sem, kindT8]
    | 2, _ => rw [hwa]; simp [go_sem, kindT8]
  have HWA := Lib.hid hwa
  have HBA := Lib.hid hba
  have HM := Lib.hid hm
  have HK0 := Lib.hid k0
  rw [← HWA.out]
  clear hwa hba hm k0
  go_loopw [7] (fun x wr => ∃ j : Nat, x = .int .i64 j ∧ j ≤ 3 ∧ Hid (wr.heap[w.heap.size]? = some (.map (entK j) j)) ∧ Hid (∀ q, q < 3 → wr.cell? ⟨w.heap.size + 1, q, none⟩ = some (.iface (kindT8 q) (.agg #[]))) ∧
    Hid (RowKit.Below w.heap.size w wr) ∧ w.heap.size + 1 < wr.heap.size) (fun x _ => 3 - (intOf x).toNat)
  case atStart => exact ⟨0, rfl, by omega, HM.out, HK0.out, HBA.out, hz⟩
  case round =>
    obtain ⟨j, rfl, hj, HM, KK, HW, hzr⟩ := hrel
    by_cases hlt : j < 3
    · obtain ⟨g2, hnl, hm2, he2, hc2⟩ := nameAs_all j hlt
      have kj := KK.out j hlt
      have HC2 := Lib.hid hc2
      have HPU := Lib.hid (fun W => push_run W w.heap.size j hlt)
      unfold funK at HPU
      obtain ⟨T, hT⟩ : ∃ T, T = kindT8 j := ⟨_, rfl⟩
      rw [← hT] at hm2 hnl kj HPU
      have hji : (j : Int) < 3 := by omega
      clear hc2 hT
      go_wp2_with fail
      go_region_held3 (fun _ => True) (trivial) ((go_at_fn g2; refine (HC2.out _).mono ?_; rintro y w3 ⟨rfl, hb3⟩; have hup := HPU.out w3 ((hb3.block _ (by simpa using Nat.lt_of_succ_lt hzr)).trans HM.out); have HB3 := Lib.hid hb3; clear hb3))
      all_goals go_wp2
      all_goals
        go_roundw
        case rel =>
          have hz3 : w.heap.size < w3.heap.size := Nat.lt_of_lt_of_le (Nat.lt_of_succ_lt hzr) (by simpa using HB3.out.size)
          refine ⟨j + 1, by go_num, by omega, heap_setBlock hz3 _, fun q hq => ?_, below_setBlock (HW.out.drew.trans (HB3.out.mono (by simpa using HW.out.size))) (Nat.le_refl _) _, ?_⟩
          · rw [cell_setBlock (by omega)]
            exact (HB3.out.cell (p := ⟨w.heap.size + 1, q, none⟩) (by simpa using hzr)).trans (KK.out q hq)
          · have := HB3.out.size
            simp [ChangeMaps.setBlock] at this ⊢
            omega
        case measure => simp [intOf]; omega
    · have hj3 : j = 3 := by omega
      subst hj3
      go_wp2_with fail
      go_ret
      exact ⟨rfl, by omega, HM.out, HW.out⟩

noncomputable def priceN (d : Array CaseD) (rest : Int) (c : CluD) : Int := if hasB8 d rest c.first c.last = true then priceS (subD d c.first.toNat c.last.toNat) c.kind else -1
/-- What a lookup of a kind's name gives, and what it then costs. -/
theorem look_cases (e : Array CaseD) (K : ByteArray) :
    (∃ j, j < 3 ∧ K = nameK j ∧ priceS e K = priceE e j ∧ (if K = testN8 then Value.tuple #[funK 0, .bool true] else if K = tableN8 then .tuple #[funK 1, .bool true] else if K = bitsN8 then .tuple #[funK 2, .bool true] else .tuple #[.nilFunc, .bool false]) = .tuple #[funK j, .bool true]) ∨
    (priceS e K = -1 ∧ (if K = testN8 then Value.tuple #[funK 0, .bool true] else if K = tableN8 then .tuple #[funK 1, .bool true] else if K = bitsN8 then .tuple #[funK 2, .bool true] else .tuple #[.nilFunc, .bool false]) = .tuple #[.nilFunc, .bool false]) := by
  by_cases h1 : K = testN8
  · left; subst h1; exact ⟨0, by omega, rfl, priceS_name e 0 (by omega), if_pos rfl⟩
  · by_cases h2 : K = tableN8
    · left; subst h2; exact ⟨1, by omega, rfl, priceS_name e 1 (by omega), by rw [if_neg h1, if_pos rfl]⟩
    · by_cases h3 : K = bitsN8
      · left; subst h3; exact ⟨2, by omega, rfl, priceS_name e 2 (by omega), by rw [if_neg h1, if_neg h2, if_pos rfl]⟩
      · right; exact ⟨by rw [priceS, if_neg h1, if_neg h2, if_neg h3], by rw [if_neg h1, if_neg h2, if_neg h3]⟩
theorem hasB8_inQ {d : Array CaseD} {rest first last : Int} (h : hasB8 d rest first last = true) : SwOK d rest ∧ ∃ i k : Nat, first = i ∧ last = k ∧ i ≤ k ∧ k < d.size ∧ first.toNat = i ∧ last.toNat = k := by
  unfold hasB8 at h
  rw [Bool.and_eq_true, swB_iff, decide_eq_true_eq] at h
  exact ⟨h.1, first.toNat, last.toNat, by omega, by omega, by omega, by omega, rfl, rfl⟩
set_option maxRecDepth 100000 in
set_option maxHeartbeats 4000000 in
theorem implPriceOf_any (b off cap : Nat) (d : Array CaseD) (rest : Int) (c : CluD) (w : World) (hR : RowC w b off d) (hE : ErrAt w) (hcap : d.size ≤ cap) (hmax : cap ≤ maxLen) :
    Calls Tryz.prog 21 #[.agg #[.slice (some ⟨b, off, none⟩) d.size cap, .int .i64 rest], aggQ c] w fun x w' => x = .returned (.int .i64 (priceN d rest c)) ∧ RowKit.Below w.heap.size w w' := by
  obtain ⟨first, last, K⟩ := c
  have HH := Lib.hid (fun W (hW : RowKit.Below w.heap.size w W) => hasCases_any b off cap d rest first last W (hR.below hW) (hE.below hW) hcap hmax)
  obtain ⟨wa, hwa⟩ : ∃ wa, wa = (w.alloc (.cells #[.slice (some ⟨b, off, none⟩) d.size cap, .int .i64 rest] 32)).alloc (.cells #[.int .i64 first, .int .i64 last, .string K] 45) := ⟨_, rfl⟩
  have hba : RowKit.Below w.heap.size w wa := by rw [hwa]; exact ((Below.refl _ _).alloc (Nat.le_refl _) _).alloc (by simp) _
  have c0 : wa.cell? ⟨w.heap.size, 0, none⟩ = some (.slice (some ⟨b, off, none⟩) d.size cap) := by rw [hwa]; simp [go_sem]
  have c1 : wa.cell? ⟨w.heap.size, 1, none⟩ = some (.int .i64 rest) := by rw [hwa]; simp [go_sem]
  have d0 : wa.cell? ⟨w.heap.size + 1, 0, none⟩ = some (.int .i64 first) := by rw [hwa]; simp [go_sem]
  have d1 : wa.cell? ⟨w.heap.size + 1, 1, none⟩ = some (.int .i64 last) := by rw [hwa]; simp [go_sem]
  have d2 : wa.cell? ⟨w.heap.size + 1, 2, none⟩ = some (.string K) := by rw [hwa]; simp [go_sem]
  have hz : w.heap.size + 1 < wa.heap.size := by rw [hwa]; simp
  have HWA := Lib.hid hwa
  have HBA := Lib.hid hba
  clear hwa hba
  unfold aggQ
  cases hs : hasB8 d rest first last with
  | false =>
    have HK := Lib.hid (show priceN d rest ⟨first, last, K⟩ = -1 by rw [priceN, if_neg (by rw [hs]; simp)])
    rw [hs] at HH
    clear hs hR hE hcap hmax
    go_enter Tryz.func21, Tryz.ntmps21
    go_wp2_with fail
    rw [← HWA.out]
    go_wp2_with fail
    refine (HH.out _ HBA.out).mono ?_
    rintro y w1 ⟨rfl, hb⟩
    have HB := Lib.hid (HBA.out.trans (hb.mono HBA.out.size))
    clear hb c0 c1 d0 d1 d2
    go_wp2_with fail
    go_ret
    exact ⟨retI HK.out.symm, HB.out⟩
  | true =>
    obtain ⟨hok, i, k, rfl, rfl, hik, hk, hi1, hk1⟩ := hasB8_inQ hs
    have HK := Lib.hid (show priceN d rest ⟨i, k, K⟩ = priceS (subD d i k) K by rw [priceN, if_pos hs]; show priceS (subD d (i : Int).toNat (k : Int).toNat) K = _; rw [hi1, hk1])
    rw [hs] at HH
    obtain ⟨e, he⟩ : ∃ e, e = subD d i k := ⟨_, rfl⟩
    have he0 : 0 < e.size := by rw [he, subD_size hk]; omega
    have heok : SwOK e 0 := by rw [he]; exact hok.sub hk
    have hec : e.size ≤ cap - i := by rw [he, subD_size hk]; omega
    have hem : cap - i ≤ maxLen := by omega
    have HIN := Lib.hid (fun s W => inC_any b off cap d rest i k s W hik hk hcap hok.size)
    rw [← he] at HIN HK
    have HKA := Lib.hid (kindAs_all (show RowC w b (off + i * 4) e by rw [he]; exact hR.sub hk) hE heok he0 hec hem)
    have HLC := Lib.hid (look_cases e K)
    have HLR := Lib.hid (fun W M hM => look_run W M K hM)
    obtain ⟨n, hn⟩ : ∃ n, n = e.size := ⟨_, rfl⟩
    rw [← hn] at HIN HKA
    clear hs hR hE hmax hok he heok he0 hec hem hi1 hk1 hn
    go_enter Tryz.func21, Tryz.ntmps21
    go_wp2_with fail
    rw [← HWA.out]
    go_wp2_with fail
    refine (HH.out _ HBA.out).mono ?_
    rintro y w1 ⟨rfl, hb⟩
    have HB := Lib.hid (HBA.out.trans (hb.mono HBA.out.size))
    have q0 : w.heap.size < w1.heap.size := Nat.lt_of_lt_of_le (Nat.lt_of_succ_lt hz) hb.size
    have q1 : w.heap.size + 1 < w1.heap.size := Nat.lt_of_lt_of_le hz hb.size
    have e0 := (hb.cell (p := ⟨w.heap.size, 0, none⟩) (Nat.lt_of_succ_lt hz)).trans c0
    have e1 := (hb.cell (p := ⟨w.heap.size, 1, none⟩) (Nat.lt_of_succ_lt hz)).trans c1
    have f0 := (hb.cell (p := ⟨w.heap.size + 1, 0, none⟩) hz).trans d0
    have f1 := (hb.cell (p := ⟨w.heap.size + 1, 1, none⟩) hz).trans d1
    have f2 := (hb.cell (p := ⟨w.heap.size + 1, 2, none⟩) hz).trans d2
    clear hb c0 c1 d0 d1 d2
    go_wp2_with fail
    rcases HLC.out with ⟨j, hj, rfl, hpe, hlk⟩ | ⟨hpe, hlk⟩
    · simp only [hlk] at HLR
      obtain ⟨g1, g2, hnl, ⟨hm1, he1, hc1⟩, -⟩ := HKA.out j hj
      have HC1 := Lib.hid hc1
      have HPE := Lib.hid (HK.out.trans hpe)
      unfold funK at HLR
      obtain ⟨T, hT⟩ : ∃ T, T = kindT8 j := ⟨_, rfl⟩
      rw [← hT] at hm1 hnl HLR
      clear hc1 hT hlk hpe
      go_region_held3 (fun w' => w'.cell? ⟨w.heap.size + 1, 2, none⟩ = some (.string (nameK j))) (first | exact f2 | go_keep) ((go_at_call 56; refine (pricings_any _).mono ?_; rintro y w2 ⟨rfl, hz2, hM, hb2⟩; have hlr := HLR.out w2 w1.heap.size hM; have HB2 := Lib.hid hb2; have f2' := (hb2.cell (p := ⟨w.heap.size + 1, 2, none⟩) (by simpa using q1)).trans f2; clear hb2))
      all_goals
        have hb2 := HB2.out
        have e0' := (hb2.cell (p := ⟨w.heap.size, 0, none⟩) (by simpa using q0)).trans e0
        have e1' := (hb2.cell (p := ⟨w.heap.size, 1, none⟩) (by simpa using q0)).trans e1
        have f0' := (hb2.cell (p := ⟨w.heap.size + 1, 0, none⟩) (by simpa using q1)).trans f0
        have f1' := (hb2.cell (p := ⟨w.heap.size + 1, 1, none⟩) (by simpa using q1)).trans f1
        have HW2 := Lib.hid (HB.out.drew.trans (hb2.mono (by simpa using HB.out.size)))
        clear hb2 hM hlr hz2 e0 e1 f0 f1 f2 q0 q1
        go_wp2_with (go_at_call 43; refine (HIN.out _ _).mono ?_; rintro y w3 ⟨rfl, hb3⟩; have HB3 := Lib.hid (HW2.out.trans (hb3.mono HW2.out.size)); clear hb3)
        refine (HC1.out _ HB3.out).mono ?_
        rintro y w4 ⟨rfl, hb4⟩
        have HB4 := Lib.hid (HB3.out.trans (hb4.mono HB3.out.size))
        clear hb4
        go_wp2
        go_ret
        exact ⟨retI HPE.out.symm, HB4.out⟩
    · simp only [hlk] at HLR
      have HPE := Lib.hid (HK.out.trans hpe)
      clear hlk hpe
      go_region_held3 (fun w' => w'.cell? ⟨w.heap.size + 1, 2, none⟩ = some (.string K)) (first | exact f2 | go_keep) ((go_at_call 56; refine (pricings_any _).mono ?_; rintro y w2 ⟨rfl, hz2, hM, hb2⟩; have hlr := HLR.out w2 w1.heap.size hM; have HB2 := Lib.hid hb2; have f2' := (hb2.cell (p := ⟨w.heap.size + 1, 2, none⟩) (by simpa using q1)).trans f2; clear hb2))
      all_goals
        have HW2 := Lib.hid (HB.out.drew.trans (HB2.out.mono (by simpa using HB.out.size)))
        clear hM hlr hz2 e0 e1 f0 f1 f2 q0 q1
        go_wp2_with fail
        go_ret
        exact ⟨retI HPE.out.symm, HW2.out⟩
set_option maxRecDepth 100000 in
set_option maxHeartbeats 4000000 in
theorem specPriceOf_any (b off cap : Nat) (d : Array CaseD) (rest : Int) (c : CluD) (w : World) (hR : RowC w b off d) (hcap : d.size ≤ cap) (hmax : cap ≤ maxLen) :
    Calls Tryz.prog 22 #[.agg #[.slice (some ⟨b, off, none⟩) d.size cap, .int .i64 rest], aggQ c] w fun x w' => x = .returned (.int .i64 (priceN d rest c)) ∧ RowKit.Below w.heap.size w w' := by
  obtain ⟨first, last, K⟩ := c
  have HH := Lib.hid (fun W (hW : RowKit.Below w.heap.size w W) => l8Cases_any b off cap d rest first last W (hR.below hW) hcap hmax)
  obtain ⟨wa, hwa⟩ : ∃ wa, wa = (w.alloc (.cells #[.slice (some ⟨b, off, none⟩) d.size cap, .int .i64 rest] 32)).alloc (.cells #[.int .i64 first, .int .i64 last, .string K] 45) := ⟨_, rfl⟩
  have hba : RowKit.Below w.heap.size w wa := by rw [hwa]; exact ((Below.refl _ _).alloc (Nat.le_refl _) _).alloc (by simp) _
  have c0 : wa.cell? ⟨w.heap.size, 0, none⟩ = some (.slice (some ⟨b, off, none⟩) d.size cap) := by rw [hwa]; simp [go_sem]
  have c1 : wa.cell? ⟨w.heap.size, 1, none⟩ = some (.int .i64 rest) := by rw [hwa]; simp [go_sem]
  have d0 : wa.cell? ⟨w.heap.size + 1, 0, none⟩ = some (.int .i64 first) := by rw [hwa]; simp [go_sem]
  have d1 : wa.cell? ⟨w.heap.size + 1, 1, none⟩ = some (.int .i64 last) := by rw [hwa]; simp [go_sem]
  have d2 : wa.cell? ⟨w.heap.size + 1, 2, none⟩ = some (.string K) := by rw [hwa]; simp [go_sem]
  have hz : w.heap.size + 1 < wa.heap.size := by rw [hwa]; simp
  have HWA := Lib.hid hwa
  have HBA := Lib.hid hba
  clear hwa hba
  unfold aggQ
  cases hs : hasB8 d rest first last with
  | false =>
    have HK := Lib.hid (show priceN d rest ⟨first, last, K⟩ = -1 by rw [priceN, if_neg (by rw [hs]; simp)])
    rw [hs] at HH
    clear hs hR hcap hmax
    go_enter Tryz.func22, Tryz.ntmps22
    go_wp2_with fail
    rw [← HWA.out]
    go_wp2_with fail
    refine (HH.out _ HBA.out).mono ?_
    rintro y w1 ⟨rfl, hb⟩
    have HB := Lib.hid (HBA.out.trans (hb.mono HBA.out.size))
    clear hb c0 c1 d0 d1 d2
    go_wp2_with fail
    go_ret
    exact ⟨retI HK.out.symm, HB.out⟩
  | true =>
    obtain ⟨hok, i, k, rfl, rfl, hik, hk, hi1, hk1⟩ := hasB8_inQ hs
    have HK := Lib.hid (show priceN d rest ⟨i, k, K⟩ = priceS (subD d i k) K by rw [priceN, if_pos hs]; show priceS (subD d (i : Int).toNat (k : Int).toNat) K = _; rw [hi1, hk1])
    have HP := Lib.hid (fun W (hW : RowKit.Below w.heap.size w W) => specPrice_any b off cap d rest i k K W (hR.below hW) hok hik hk hcap)
    rw [hs] at HH
    obtain ⟨z, hzz⟩ : ∃ z, z = priceS (subD d i k) K := ⟨_, rfl⟩
    rw [← hzz] at HK HP
    clear hs hR hmax hok hi1 hk1 hzz
    go_enter Tryz.func22, Tryz.ntmps22
    go_wp2_with fail
    rw [← HWA.out]
    go_wp2_with fail
    refine (HH.out _ HBA.out).mono ?_
    rintro y w1 ⟨rfl, hb⟩
    have HB := Lib.hid (HBA.out.trans (hb.mono HBA.out.size))
    have e0 := (hb.cell (p := ⟨w.heap.size, 0, none⟩) (Nat.lt_of_succ_lt hz)).trans c0
    have e1 := (hb.cell (p := ⟨w.heap.size, 1, none⟩) (Nat.lt_of_succ_lt hz)).trans c1
    have f0 := (hb.cell (p := ⟨w.heap.size + 1, 0, none⟩) hz).trans d0
    have f1 := (hb.cell (p := ⟨w.heap.size + 1, 1, none⟩) hz).trans d1
    have f2 := (hb.cell (p := ⟨w.heap.size + 1, 2, none⟩) hz).trans d2
    clear hb c0 c1 d0 d1 d2
    go_wp2_with fail
    refine (HP.out _ HB.out).mono ?_
    rintro y w2 ⟨rfl, hb⟩
    have HB2 := Lib.hid (HB.out.trans (hb.mono HB.out.size))
    clear hb e0 e1 f0 f1 f2
    go_wp2_with fail
    go_ret
    exact ⟨retI HK.out.symm, HB2.out⟩
end Go.Proofs.YtjpcpiffffobcaaGreatDoor

namespace Go.Proofs.YtjpcpiffffobcaaGreatDoor
open Go.RowKit Go.Shelf Go.Lib Go.Sort

/-- The case that a plan's j-th cluster has to begin with. -/
def nxtQ (q : Array CluD) : Nat → Int
  | 0 => 0
  | j + 1 => q[j]!.last + 1
def okTo8 (d : Array CaseD) (rest : Int) (q : Array CluD) (j : Nat) : Prop := ∀ i, i < j → q[i]!.first = nxtQ q i ∧ priceN d rest q[i]! ≠ -1
noncomputable def planB (d : Array CaseD) (rest : Int) (q : Array CluD) : Bool := @decide (okTo8 d rest q q.size ∧ SwOK d rest ∧ nxtQ q q.size = d.size) (Classical.propDecidable _)
theorem planB_iff (d : Array CaseD) (rest : Int) (q : Array CluD) : planB d rest q = true ↔ okTo8 d rest q q.size ∧ SwOK d rest ∧ nxtQ q q.size = d.size := @decide_eq_true_iff _ (Classical.propDecidable _)
theorem planB_not (d : Array CaseD) (rest : Int) (q : Array CluD) : planB d rest q = false ↔ ¬ (okTo8 d rest q q.size ∧ SwOK d rest ∧ nxtQ q q.size = d.size) := @decide_eq_false_iff_not _ (Classical.propDecidable _)
theorem priceN_range (d : Array CaseD) (rest : Int) (c : CluD) : priceN d rest c = -1 ∨ (1 ≤ priceN d rest c ∧ priceN d rest c ≤ 18) := by
  unfold priceN
  split
  · next h =>
    obtain ⟨hok, i, k, _, _, hik, hk, h3, h4⟩ := hasB8_inQ h
    rw [h3, h4]
    have h0 : 0 < (subD d i k).size := by rw [subD_size hk]; omega
    rcases look_cases (subD d i k) c.kind with ⟨j, _, _, he, _⟩ | ⟨he, _⟩
    · rw [he]
      exact priceE_or (hok.sub hk) h0 j
    · exact .inl he
  · exact .inl rfl
theorem priceN_has {d : Array CaseD} {rest : Int} {c : CluD} (h : priceN d rest c ≠ -1) : hasB8 d rest c.first c.last = true := by
  unfold priceN at h
  split at h
  · next h2 => exact h2
  · exact absurd rfl h
theorem nxtQ_bound {d : Array CaseD} {rest : Int} {q : Array CluD} : ∀ {j : Nat}, okTo8 d rest q j → 0 ≤ nxtQ q j ∧ nxtQ q j ≤ 8
  | 0, _ => by simp [nxtQ]
  | j + 1, h => by
    obtain ⟨hok, i, k, h1, h2, hik, hk, _⟩ := hasB8_inQ (priceN_has (h j (by omega)).2)
    have := hok.size
    show 0 ≤ q[j]!.last + 1 ∧ q[j]!.last + 1 ≤ 8
    omega
theorem okTo8_succ {d : Array CaseD} {rest : Int} {q : Array CluD} {j : Nat} (h : okTo8 d rest q j) (h1 : q[j]!.first = nxtQ q j) (h2 : priceN d rest q[j]! ≠ -1) : okTo8 d rest q (j + 1) := fun i hi => by
  by_cases e : i = j
  · subst e; exact ⟨h1, h2⟩
  · exact h i (by omega)
theorem planB_bad {d : Array CaseD} {rest : Int} {q : Array CluD} {j : Nat} (hj : j < q.size) (h : ¬ (q[j]!.first = nxtQ q j ∧ priceN d rest q[j]! ≠ -1)) : planB d rest q = false := (planB_not _ _ _).2 fun hp => h (hp.1 j hj)
theorem planB_end {d : Array CaseD} {rest : Int} {q : Array CluD} (h : okTo8 d rest q q.size) : planB d rest q = (swB d rest && (nxtQ q q.size == (d.size : Int))) := by
  rw [Bool.eq_iff_iff, planB_iff, Bool.and_eq_true, swB_iff, beq_iff_eq]
  exact ⟨fun hp => hp.2, fun hp => ⟨h, hp⟩⟩
theorem World.cell?_alloc_new8 {w : World} {vs : Array Value} {t : TypeId} (v : Value) (j : Nat) (h : vs[j]? = some v) : (w.alloc (.cells vs t)).cell? ⟨w.heap.size, j, none⟩ = some v := by
  simp [h]
theorem World.cell?_alloc_old8 {w : World} {b : Nat} (h : b < w.heap.size) (o : Obj) (j : Nat) : (w.alloc o).cell? ⟨b, j, none⟩ = w.cell? ⟨b, j, none⟩ :=
  (((Below.refl w.heap.size w).alloc (Nat.le_refl _) o).cell (p := ⟨b, j, none⟩) h)
set_option maxRecDepth 100000 in
set_option maxHeartbeats 4000000 in
theorem implPval_any (b off cap : Nat) (d : Array CaseD) (rest : Int) (pb po pc : Nat) (q : Array CluD) (w : World) (hR : RowC w b off d) (hE : ErrAt w) (hcap : d.size ≤ cap) (hmax : cap ≤ maxLen) (hQ : RowQ w pb po q) (hq : q.size ≤ 1048576) :
    Calls Tryz.prog 16 #[.agg #[.slice (some ⟨b, off, none⟩) d.size cap, .int .i64 rest], .slice (some ⟨pb, po, none⟩) q.size pc] w fun x w' => x = .returned (.bool (planB d rest q)) ∧ RowKit.Below w.heap.size w w' := by
  have HPR := Lib.hid (fun c W (hW : RowKit.Below w.heap.size w W) => implPriceOf_any b off cap d rest c W (hR.below hW) (hE.below hW) hcap hmax)
  have HSV := Lib.hid (fun W (hW : RowKit.Below w.heap.size w W) => switchValid_any b off cap d rest W (hR.below hW) (hE.below hW) hcap hmax)
  have HQ := Lib.hid hQ
  have hqi : (q.size : Int) ≤ 1048576 := by omega
  have hdm : (d.size : Int) ≤ 9223372036854775807 := by unfold maxLen at hmax; omega
  obtain ⟨wa, hwa⟩ : ∃ wa, wa = w.alloc (.cells #[.slice (some ⟨b, off, none⟩) d.size cap, .int .i64 rest] 32) := ⟨_, rfl⟩
  have hba : RowKit.Below w.heap.size w wa := by rw [hwa]; exact (Below.refl _ _).alloc (Nat.le_refl _) _
  have c0 : wa.cell? ⟨w.heap.size, 0, none⟩ = some (.slice (some ⟨b, off, none⟩) d.size cap) := by rw [hwa]; simp
  have c1 : wa.cell? ⟨w.heap.size, 1, none⟩ = some (.int .i64 rest) := by rw [hwa]; simp
  have hz : w.heap.size < wa.heap.size := by rw [hwa]; simp
  have HWA := Lib.hid hwa
  have HBA := Lib.hid hba
  clear hwa hba hR hcap hmax hQ
  go_enter Tryz.func16, Tryz.ntmps16
  go_wp2_with fail
  rw [← HWA.out]
  go_loopw [5, 10] (fun n x wr => ∃ j : Nat, n = .int .i64 (nxtQ q j) ∧ x = .int .i64 j ∧ j ≤ q.size ∧ Hid (okTo8 d rest q j) ∧
    wr.cell? ⟨w.heap.size, 0, none⟩ = some (.slice (some ⟨b, off, none⟩) d.size cap) ∧ wr.cell? ⟨w.heap.size, 1, none⟩ = some (.int .i64 rest) ∧ Hid (RowKit.Below w.heap.size w wr) ∧ w.heap.size < wr.heap.size) (fun _ x _ => q.size - (intOf x).toNat)
  case atStart => exact ⟨0, rfl, rfl, Nat.zero_le _, (fun i hi => absurd hi (Nat.not_lt_zero i)), c0, c1, HBA.out, hz⟩
  case round =>
    obtain ⟨j, rfl, rfl, hj, HO, c0, c1, HW, hzr⟩ := hrel
    have hnb := nxtQ_bound HO.out
    by_cases hlt : j < q.size
    · have hx := HQ.out.below HW.out
      have x0 := hx.first j hlt
      have x1 := hx.last j hlt
      have x2 := hx.kind j hlt
      clear hx
      have HBAD := Lib.hid (@planB_bad d rest q j hlt)
      have HSUC := Lib.hid (fun h1 h2 => @okTo8_succ d rest q j HO.out h1 h2)
      have hpr := priceN_range d rest q[j]!
      have hlast := fun (h : q[j]!.first = nxtQ q j ∧ priceN d rest q[j]! ≠ -1) => nxtQ_bound (j := j + 1) (HSUC.out h.1 h.2)
      have HNX := Lib.hid (show nxtQ q (j + 1) = q[j]!.last + 1 from rfl)
      have hcall := HPR.out q[j]!
      obtain ⟨c, hc⟩ : ∃ c, c = q[j]! := ⟨_, rfl⟩
      rw [← hc] at x0 x1 x2 hpr HBAD HSUC HNX hcall hlast
      obtain ⟨p, hp⟩ : ∃ p, p = priceN d rest c := ⟨_, rfl⟩
      rw [← hp] at hpr hcall HBAD HSUC hlast
      obtain ⟨n, hn⟩ : ∃ n, n = nxtQ q j := ⟨_, rfl⟩
      rw [← hn] at HBAD HSUC hnb hlast ⊢
      unfold aggQ at hcall
      have HCL := Lib.hid hcall
      have HLA := Lib.hid hlast
      obtain ⟨cf, cl, ck⟩ := c
      simp only at *
      clear hc hp hn hcall hlast
      have hji : (j : Int) < (q.size : Int) := by omega
      have HB2 := Lib.hid (HW.out.alloc (Nat.le_of_lt hzr) (.cells #[.int .i64 cf, .int .i64 cl, .string ck] 45))
      by_cases h1 : cf = n
      · have hq1 : (cf != n) = false := by simp [h1]
        have hq2 : (cf == n) = true := by simp [h1]
        rcases hpr with hp | hp
        · have HRES := Lib.hid (HBAD.out (fun h => h.2 hp))
          subst hp
          clear h1
          go_wp2_with (go_at_call 21; refine (HCL.out _ HB2.out).mono ?_; rintro y w2 ⟨rfl, hb⟩)
          go_ret
          exact ⟨retB HRES.out.symm, HB2.out.trans (hb.mono (by simp; omega))⟩
        · have HN2 := Lib.hid (HSUC.out h1 (by omega))
          have hla := HLA.out ⟨h1, by omega⟩
          rw [HNX.out] at hla
          have hpm : (p == -1) = false := by simp; omega
          have hl0 : -1 ≤ cl := by omega
          have hl1 : cl ≤ 7 := by omega
          clear h1 hla
          go_wp2_with (go_at_call 21; refine (HCL.out _ HB2.out).mono ?_; rintro y w2 ⟨rfl, hb⟩; have HBB := Lib.hid hb; have e0 := (hb.cell (p := ⟨wr.heap.size, 0, none⟩) (by simp)).trans (World.cell?_alloc_new8 _ 0 rfl); have e1 := (hb.cell (p := ⟨wr.heap.size, 1, none⟩) (by simp)).trans (World.cell?_alloc_new8 _ 1 rfl); clear hb)
          go_roundw
          case rel =>
            have hb := HBB.out
            exact ⟨j + 1, by rw [HNX.out], by go_num, by omega, HN2.out, (hb.cell (p := ⟨w.heap.size, 0, none⟩) (by simp; omega)).trans ((World.cell?_alloc_old8 hzr _ 0).trans c0), (hb.cell (p := ⟨w.heap.size, 1, none⟩) (by simp; omega)).trans ((World.cell?_alloc_old8 hzr _ 1).trans c1), HB2.out.trans (hb.mono (by simp; omega)), Nat.lt_of_lt_of_le hzr (Nat.le_trans (by simp) hb.size)⟩
          case measure => simp [intOf]; omega
      · have hq1 : (cf != n) = true := by simp [h1]
        have hq2 : (cf == n) = false := by simp [h1]
        have HRES := Lib.hid (HBAD.out (fun h => h1 h.1))
        clear h1
        go_wp2_with fail
        go_ret
        exact ⟨retB HRES.out.symm, HB2.out⟩
    · have hje : j = q.size := by omega
      subst hje
      have HEND := Lib.hid (planB_end HO.out)
      obtain ⟨n, hn⟩ : ∃ n, n = nxtQ q q.size := ⟨_, rfl⟩
      rw [← hn] at HEND hnb ⊢
      clear hn
      cases hs : swB d rest with
      | false =>
        rw [hs] at HEND HSV
        clear hs
        go_wp2_with (go_at_call 49; refine (HSV.out _ HW.out).mono ?_; rintro y w2 ⟨rfl, hb⟩)
        go_ret
        exact ⟨retB (by rw [HEND.out]; rfl), HW.out.trans (hb.mono (Nat.le_of_lt hzr))⟩
      | true =>
        rw [hs] at HEND HSV
        clear hs
        go_wp2_with (go_at_call 49; refine (HSV.out _ HW.out).mono ?_; rintro y w2 ⟨rfl, hb⟩; have e0 := (hb.cell (p := ⟨w.heap.size, 0, none⟩) hzr).trans c0)
        go_ret
        exact ⟨retB (by rw [HEND.out]; rfl), HW.out.trans (hb.mono (Nat.le_of_lt hzr))⟩
set_option maxRecDepth 100000 in
set_option maxHeartbeats 4000000 in
theorem specPval_any (b off cap : Nat) (d : Array CaseD) (rest : Int) (pb po pc : Nat) (q : Array CluD) (w : World) (hR : RowC w b off d) (hcap : d.size ≤ cap) (hmax : cap ≤ maxLen) (hQ : RowQ w pb po q) (hq : q.size ≤ 1048576) :
    Calls Tryz.prog 20 #[.agg #[.slice (some ⟨b, off, none⟩) d.size cap, .int .i64 rest], .slice (some ⟨pb, po, none⟩) q.size pc] w fun x w' => x = .returned (.bool (planB d rest q)) ∧ RowKit.Below w.heap.size w w' := by
  have HPR := Lib.hid (fun c W (hW : RowKit.Below w.heap.size w W) => specPriceOf_any b off cap d rest c W (hR.below hW) hcap hmax)
  have HSV := Lib.hid (fun W (hW : RowKit.Below w.heap.size w W) => specValid_any b off cap d rest W (hR.below hW) hcap hmax)
  have HQ := Lib.hid hQ
  have hqi : (q.size : Int) ≤ 1048576 := by omega
  have hdm : (d.size : Int) ≤ 9223372036854775807 := by unfold maxLen at hmax; omega
  obtain ⟨wa, hwa⟩ : ∃ wa, wa = w.alloc (.cells #[.slice (some ⟨b, off, none⟩) d.size cap, .int .i64 rest] 32) := ⟨_, rfl⟩
  have hba : RowKit.Below w.heap.size w wa := by rw [hwa]; exact (Below.refl _ _).alloc (Nat.le_refl _) _
  have c0 : wa.cell? ⟨w.heap.size, 0, none⟩ = some (.slice (some ⟨b, off, none⟩) d.size cap) := by rw [hwa]; simp
  have c1 : wa.cell? ⟨w.heap.size, 1, none⟩ = some (.int .i64 rest) := by rw [hwa]; simp
  have hz : w.heap.size < wa.heap.size := by rw [hwa]; simp
  have HWA := Lib.hid hwa
  have HBA := Lib.hid hba
  clear hwa hba hR hcap hmax hQ
  go_enter Tryz.func20, Tryz.ntmps20
  go_wp2_with fail
  rw [← HWA.out]
  go_loopw [5, 10] (fun n x wr => ∃ j : Nat, n = .int .i64 (nxtQ q j) ∧ x = .int .i64 j ∧ j ≤ q.size ∧ Hid (okTo8 d rest q j) ∧
    wr.cell? ⟨w.heap.size, 0, none⟩ = some (.slice (some ⟨b, off, none⟩) d.size cap) ∧ wr.cell? ⟨w.heap.size, 1, none⟩ = some (.int .i64 rest) ∧ Hid (RowKit.Below w.heap.size w wr) ∧ w.heap.size < wr.heap.size) (fun _ x _ => q.size - (intOf x).toNat)
  case atStart => exact ⟨0, rfl, rfl, Nat.zero_le _, (fun i hi => absurd hi (Nat.not_lt_zero i)), c0, c1, HBA.out, hz⟩
  case round =>
    obtain ⟨j, rfl, rfl, hj, HO, c0, c1, HW, hzr⟩ := hrel
    have hnb := nxtQ_bound HO.out
    by_cases hlt : j < q.size
    · have hx := HQ.out.below HW.out
      have x0 := hx.first j hlt
      have x1 := hx.last j hlt
      have x2 := hx.kind j hlt
      clear hx
      have HBAD := Lib.hid (@planB_bad d rest q j hlt)
      have HSUC := Lib.hid (fun h1 h2 => @okTo8_succ d rest q j HO.out h1 h2)
      have hpr := priceN_range d rest q[j]!
      have hlast := fun (h : q[j]!.first = nxtQ q j ∧ priceN d rest q[j]! ≠ -1) => nxtQ_bound (j := j + 1) (HSUC.out h.1 h.2)
      have HNX := Lib.hid (show nxtQ q (j + 1) = q[j]!.last + 1 from rfl)
      have hcall := HPR.out q[j]!
      obtain ⟨c, hc⟩ : ∃ c, c = q[j]! := ⟨_, rfl⟩
      rw [← hc] at x0 x1 x2 hpr HBAD HSUC HNX hcall hlast
      obtain ⟨p, hp⟩ : ∃ p, p = priceN d rest c := ⟨_, rfl⟩
      rw [← hp] at hpr hcall HBAD HSUC hlast
      obtain ⟨n, hn⟩ : ∃ n, n = nxtQ q j := ⟨_, rfl⟩
      rw [← hn] at HBAD HSUC hnb hlast ⊢
      unfold aggQ at hcall
      have HCL := Lib.hid hcall
      have HLA := Lib.hid hlast
      obtain ⟨cf, cl, ck⟩ := c
      simp only at *
      clear hc hp hn hcall hlast
      have hji : (j : Int) < (q.size : Int) := by omega
      have HB2 := Lib.hid (HW.out.alloc (Nat.le_of_lt hzr) (.cells #[.int .i64 cf, .int .i64 cl, .string ck] 45))
      by_cases h1 : cf = n
      · have hq1 : (cf != n) = false := by simp [h1]
        have hq2 : (cf == n) = true := by simp [h1]
        rcases hpr with hp | hp
        · have HRES := Lib.hid (HBAD.out (fun h => h.2 hp))
          subst hp
          clear h1
          go_wp2_with (go_at_call 22; refine (HCL.out _ HB2.out).mono ?_; rintro y w2 ⟨rfl, hb⟩)
          go_ret
          exact ⟨retB HRES.out.symm, HB2.out.trans (hb.mono (by simp; omega))⟩
        · have HN2 := Lib.hid (HSUC.out h1 (by omega))
          have hla := HLA.out ⟨h1, by omega⟩
          rw [HNX.out] at hla
          have hpm : ¬ p < 0 := by omega
          have hl0 : -1 ≤ cl := by omega
          have hl1 : cl ≤ 7 := by omega
          clear h1 hla
          go_wp2_with (go_at_call 22; refine (HCL.out _ HB2.out).mono ?_; rintro y w2 ⟨rfl, hb⟩; have HBB := Lib.hid hb; have e0 := (hb.cell (p := ⟨wr.heap.size, 0, none⟩) (by simp)).trans (World.cell?_alloc_new8 _ 0 rfl); have e1 := (hb.cell (p := ⟨wr.heap.size, 1, none⟩) (by simp)).trans (World.cell?_alloc_new8 _ 1 rfl); clear hb)
          go_roundw
          case rel =>
            have hb := HBB.out
            exact ⟨j + 1, by rw [HNX.out], by go_num, by omega, HN2.out, (hb.cell (p := ⟨w.heap.size, 0, none⟩) (by simp; omega)).trans ((World.cell?_alloc_old8 hzr _ 0).trans c0), (hb.cell (p := ⟨w.heap.size, 1, none⟩) (by simp; omega)).trans ((World.cell?_alloc_old8 hzr _ 1).trans c1), HB2.out.trans (hb.mono (by simp; omega)), Nat.lt_of_lt_of_le hzr (Nat.le_trans (by simp) hb.size)⟩
          case measure => simp [intOf]; omega
      · have hq1 : (cf != n) = true := by simp [h1]
        have hq2 : (cf == n) = false := by simp [h1]
        have HRES := Lib.hid (HBAD.out (fun h => h1 h.1))
        clear h1
        go_wp2_with fail
        go_ret
        exact ⟨retB HRES.out.symm, HB2.out⟩
    · have hje : j = q.size := by omega
      subst hje
      have HEND := Lib.hid (planB_end HO.out)
      obtain ⟨n, hn⟩ : ∃ n, n = nxtQ q q.size := ⟨_, rfl⟩
      rw [← hn] at HEND hnb ⊢
      clear hn
      cases hs : swB d rest with
      | false =>
        rw [hs] at HEND HSV
        clear hs
        go_wp2_with (go_at_call 54; refine (HSV.out _ HW.out).mono ?_; rintro y w2 ⟨rfl, hb⟩)
        go_ret
        exact ⟨retB (by rw [HEND.out]; rfl), HW.out.trans (hb.mono (Nat.le_of_lt hzr))⟩
      | true =>
        rw [hs] at HEND HSV
        clear hs
        go_wp2_with (go_at_call 54; refine (HSV.out _ HW.out).mono ?_; rintro y w2 ⟨rfl, hb⟩; have e0 := (hb.cell (p := ⟨w.heap.size, 0, none⟩) hzr).trans c0)
        go_ret
        exact ⟨retB (by rw [HEND.out]; rfl), HW.out.trans (hb.mono (Nat.le_of_lt hzr))⟩
end Go.Proofs.YtjpcpiffffobcaaGreatDoor
