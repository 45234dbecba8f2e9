
/- HeavyTree of the program: balance. -/
import Derived.Test.YtndnbeijmhcepaaDoorKsTreeU
namespace Go.Proofs.YtndnbeijmhcepaaDoor
open Go.RowKit Go.Shelf

theorem wsum_take_succ {l : List CaseD} {k : Nat} (h : k < l.length) : wsum (l.take (k + 1)) = wsum (l.take k) + l[k]!.weight := by
  rw [List.take_succ_eq_append_getElem h, wsum_snoc, getElem!_pos l k h]
theorem wsum_split (l : List CaseD) (k : Nat) : wsum l = wsum (l.take k) + wsum (l.drop k) := by
  have key : ∀ (l : List CaseD) (a : Int), l.foldl (fun n c => n + c.weight) a = a + wsum l := by
    intro l
    induction l with
    | nil => intro a; simp [wsum]
    | cons c l ih => intro a; simp only [List.foldl_cons, wsum]; rw [ih, ih (0 + c.weight)]; omega
  have e := List.take_append_drop k l
  have h2 : wsum (l.take k ++ l.drop k) = wsum (l.take k) + wsum (l.drop k) := by
    rw [wsum, List.foldl_append, key]
    rfl
  rw [e] at h2
  exact h2
/-- What balance's second loop holds behind k rounds. -/
def balSt (l : List CaseD) : Nat → Nat × Int
  | 0 => (0, 9223372036854775807)
  | k + 1 => if apartI l (k + 1) < (balSt l k).2 then (k + 1, apartI l (k + 1)) else balSt l k
theorem apartI_bound {l : List CaseD} (hok : ∀ c ∈ l, okB c = true) (h17 : l.length ≤ 17) (k : Nat) : 0 ≤ apartI l k ∧ apartI l k ≤ 1683 := by
  have h1 := wsum_bound _ (l.take k) (Nat.le_refl _) (fun c hc => hok c (List.mem_of_mem_take hc))
  have h2 := wsum_bound _ (l.drop k) (Nat.le_refl _) (fun c hc => hok c (List.mem_of_mem_drop hc))
  rw [List.length_take] at h1
  rw [List.length_drop] at h2
  simp only [apartI]
  omega
theorem balSt_best {l : List CaseD} (hok : ∀ c ∈ l, okB c = true) (h17 : l.length ≤ 17) : ∀ k, 1 ≤ k → balSt l k = (bestI l k, apartI l (bestI l k))
  | 1, _ => by
    have := apartI_bound hok h17 1
    have h1 : apartI l (0 + 1) < (balSt l 0).2 := by show apartI l 1 < 9223372036854775807; omega
    rw [balSt, if_pos h1]
    rfl
  | k + 2, _ => by
    rw [balSt, balSt_best hok h17 (k + 1) (by omega), bestI]
    simp only
    split <;> simp_all
theorem balSt_snd {l : List CaseD} (hok : ∀ c ∈ l, okB c = true) (h17 : l.length ≤ 17) (k : Nat) : 0 ≤ (balSt l k).2 ∧ (balSt l k).2 ≤ 9223372036854775807 ∧ (balSt l k).1 ≤ k := by
  induction k with
  | zero => simp [balSt]
  | succ k ih =>
    have := apartI_bound hok h17 (k + 1)
    rw [balSt]
    split
    · simp only; omega
    · omega
theorem bal_heavy {l : List CaseD} (hok : ∀ c ∈ l, okB c = true) (h17 : l.length ≤ 17) (h2 : 2 ≤ l.length) : (balSt l (l.length - 1)).1 = heavyP l := by
  rw [balSt_best hok h17 _ (by omega)]
  rfl

set_option maxRecDepth 100000 in
set_option maxHeartbeats 1000000 in
theorem weigh_any (l : List CaseD) (b off cap : Nat) (w : World) (hS : SegsAt w b off l) (h17 : l.length ≤ 17) (hok : ∀ c ∈ l, okB c = true) :
    Calls Tryd.prog 61 #[.slice (some ⟨b, off, none⟩) l.length cap] w fun x w' => x = .returned (.int .i64 (wsum l)) ∧ Below w.heap.size w w' := by
  have HS := Lib.hid hS
  have HOK := Lib.hid hok
  have hni : ((l.length : Nat) : Int) ≤ 17 := by omega
  clear hS hok
  have HWB := Lib.hid (fun k => wsum_bound _ (l.take k) (Nat.le_refl _) (fun c hc => HOK.out c (List.mem_of_mem_take hc)))
  have HWS := Lib.hid (fun k (h : k < l.length) => wsum_take_succ h)
  have HOKI := Lib.hid (fun k (h : k < l.length) => (okB_iff _).1 (HOK.out l[k]! (by rw [getElem!_pos l k h]; exact List.getElem_mem _)))
  obtain ⟨n, hn⟩ : ∃ n, n = l.length := ⟨_, rfl⟩
  rw [← hn] at hni h17 HWS HOKI ⊢
  have HN := Lib.hid hn
  clear hn
  go_enter Tryd.func61, Tryd.ntmps61
  go_wp2_with fail
  go_loopw [3, 8] (fun bh ix wr => ∃ k : Nat, ix = .int .i64 k ∧ bh = .int .i64 (wsum (l.take k)) ∧ k ≤ n ∧ Hid (Below w.heap.size w wr)) (fun _ ix _ => n - (RowKit.intOf ix).toNat)
  case atStart => exact ⟨0, rfl, by simp [wsum], Nat.zero_le _, Lib.hid (Below.refl _ _)⟩
  case round =>
    obtain ⟨k, rfl, rfl, hk, HW⟩ := hrel
    have hwb := HWB.out k
    have hlen : (l.take k).length ≤ 17 := by rw [List.length_take]; omega
    obtain ⟨ws, hws⟩ : ∃ ws, ws = wsum (l.take k) := ⟨_, rfl⟩
    rw [← hws] at hwb ⊢
    have hw0 : 0 ≤ ws := hwb.1
    have hw1 : ws ≤ 1683 := by omega
    by_cases hlt : k < n
    · have hr := HS.out.below HW.out
      have e0 : l.toArray[k]! = l[k]! := by simp
      have hks : k < l.toArray.size := by have := HN.out; simp; omega
      have x0 := hr.low k hks
      have x1 := hr.high k hks
      have x2 := hr.target k hks
      have x3 := hr.weight k hks
      rw [e0] at x0 x1 x2 x3
      have hc := HOKI.out k hlt
      have HS1 := Lib.hid (show wsum (l.take (k + 1)) = ws + l[k]!.weight by rw [hws]; exact HWS.out k hlt)
      obtain ⟨c, hcc⟩ : ∃ c, c = l[k]! := ⟨_, rfl⟩
      rw [← hcc] at x0 x1 x2 x3 hc HS1
      obtain ⟨lo, hi, tc, wt⟩ := c
      simp only at x0 x1 x2 x3 hc HS1
      have hwt0 : 0 ≤ wt := hc.2.2.2.1
      have hwt1 : wt ≤ 99 := hc.2.2.2.2.1
      have hki : (k : Int) < (n : Int) := by omega
      clear hr e0 hks hc hcc hws hwb hlen
      go_wp2_with fail
      go_roundw
      case rel => exact ⟨k + 1, by go_num, by rw [HS1.out], by omega, Lib.hid (HW.out.alloc HW.out.size _)⟩
      case measure => simp [RowKit.intOf]; omega
    · have hke : k = n := by omega
      subst hke
      have HWT := Lib.hid (show ws = wsum l by rw [hws, HN.out, List.take_length])
      clear hws hwb hlen
      go_wp2_with fail
      go_ret
      exact ⟨by rw [← HWT.out]; rfl, HW.out⟩

set_option maxRecDepth 100000 in
set_option maxHeartbeats 1000000 in
theorem balance_any (l : List CaseD) (b off cap : Nat) (w : World) (hS : SegsAt w b off l) (h2 : 2 ≤ l.length) (h17 : l.length ≤ 17) (hok : ∀ c ∈ l, okB c = true) (hcap : l.length ≤ cap) (hmax : cap ≤ maxLen) :
    Calls Tryd.prog 40 #[.slice (some ⟨b, off, none⟩) l.length cap] w fun x w' => x = .returned (.int .i64 (heavyP l)) ∧ Below w.heap.size w w' := by
  have HS := Lib.hid hS
  have HOK := Lib.hid hok
  have HRES := Lib.hid (bal_heavy hok h17 h2)
  have HWG := Lib.hid (weigh_any l b off cap w hS h17 hok)
  have hni : ((l.length : Nat) : Int) ≤ 17 := by omega
  have hni2 : (2 : Int) ≤ ((l.length : Nat) : Int) := by omega
  have hci : ((l.length : Nat) : Int) ≤ (cap : Int) := by omega
  clear hS hok
  have HWB := Lib.hid (fun k => wsum_bound _ (l.take k) (Nat.le_refl _) (fun c hc => HOK.out c (List.mem_of_mem_take hc)))
  have HWS := Lib.hid (fun k (h : k < l.length) => wsum_take_succ h)
  have HOKI := Lib.hid (fun k (h : k < l.length) => (okB_iff _).1 (HOK.out l[k]! (by rw [getElem!_pos l k h]; exact List.getElem_mem _)))
  have HSP := Lib.hid (wsum_split l)
  have hwl := wsum_bound _ l (Nat.le_refl _) HOK.out
  obtain ⟨k, hn⟩ : ∃ n, n = l.length := ⟨_, rfl⟩
  rw [← hn] at hni hni2 hci HRES h2 h17 hcap HWS HOKI HWG hwl ⊢
  have HN := Lib.hid hn
  obtain ⟨ws, hws⟩ : ∃ ws, ws = wsum l := ⟨_, rfl⟩
  rw [← hws] at HWG hwl
  have HWT := Lib.hid hws
  have hw0 : 0 ≤ ws := hwl.1
  have hw1 : ws ≤ 1683 := by omega
  clear hn hws hwl
  go_enter Tryd.func40, Tryd.ntmps40
  go_wp2_with fail
  refine HWG.out.mono ?_
  rintro e w1 ⟨rfl, hb1⟩
  have HW := Lib.hid hb1
  clear hb1
  go_wp2_with fail
  go_loopw [3, 4, 5, 6, 18] (fun av bv bs lv ix wx => ∃ k2 : Nat, ix = .int .i64 k2 ∧ av = .int .i64 (wsum (l.take k2)) ∧ bv = .int .i64 (wsum (l.drop k2)) ∧ bs = .int .i64 (balSt l k2).1 ∧ lv = .int .i64 (balSt l k2).2 ∧ k2 + 1 ≤ k ∧ Hid (Below w.heap.size w wx)) (fun _ _ _ _ ix _ => k - (RowKit.intOf ix).toNat)
  case atStart => exact ⟨0, rfl, by simp [wsum], by rw [HWT.out]; simp, rfl, rfl, by omega, HW.out⟩
  case round =>
    obtain ⟨k2, rfl, rfl, rfl, rfl, rfl, hk2, HW2⟩ := hrel
    have hwa := HWB.out k2
    have hwd := HSP.out k2
    have hlen2 : (l.take k2).length ≤ 17 := by rw [List.length_take]; omega
    have hbs := balSt_snd HOK.out (by rw [← HN.out]; exact h17) k2
    obtain ⟨bst, hbst⟩ : ∃ bst, bst = balSt l k2 := ⟨_, rfl⟩
    rw [← hbst] at hbs ⊢
    have HBST := Lib.hid hbst
    obtain ⟨bi, bl⟩ := bst
    simp only at hbs ⊢
    obtain ⟨A, hA⟩ : ∃ A, A = wsum (l.take k2) := ⟨_, rfl⟩
    obtain ⟨B, hB⟩ : ∃ B, B = wsum (l.drop k2) := ⟨_, rfl⟩
    rw [← hA] at hwa hwd ⊢
    rw [← hB] at hwd ⊢
    rw [← HWT.out] at hwd
    have hA0 : 0 ≤ A := hwa.1
    have hA1 : A ≤ 1683 := by omega
    have hB0 : -1683 ≤ B := by omega
    have hB1 : B ≤ 1683 := by omega
    have hl0 : 0 ≤ bl := hbs.1
    have hl1 : bl ≤ 9223372036854775807 := hbs.2.1
    have hbi : (bi : Int) ≤ 17 := by omega
    by_cases hlt : k2 + 1 < k
    · have hr := HS.out.below HW2.out
      have e0 : l.toArray[k2]! = l[k2]! := by simp
      have hks : k2 < l.toArray.size := by have := HN.out; simp; omega
      have x0 := hr.low k2 hks
      have x1 := hr.high k2 hks
      have x2 := hr.target k2 hks
      have x3 := hr.weight k2 hks
      rw [e0] at x0 x1 x2 x3
      have hc := HOKI.out k2 (by omega)
      have hs1 := HWS.out k2 (by omega)
      rw [← hA] at hs1
      have hs2 := HSP.out (k2 + 1)
      rw [hs1, ← HWT.out] at hs2
      obtain ⟨c, hcc⟩ : ∃ c, c = l[k2]! := ⟨_, rfl⟩
      rw [← hcc] at x0 x1 x2 x3 hc hs1 hs2
      obtain ⟨lo, hi, tc, wt⟩ := c
      simp only at x0 x1 x2 x3 hc hs1 hs2
      have hwt0 : 0 ≤ wt := hc.2.2.2.1
      have hwt1 : wt ≤ 99 := hc.2.2.2.2.1
      have HA1 := Lib.hid (show wsum (l.take (k2 + 1)) = A + wt from hs1)
      have HB1 := Lib.hid (show wsum (l.drop (k2 + 1)) = B - wt by omega)
      have HD := Lib.hid (show apartI l (k2 + 1) = max (A + wt - (B - wt)) (B - wt - (A + wt)) by rw [apartI, HA1.out, HB1.out]; omega)
      have HST := Lib.hid (show balSt l (k2 + 1) = if max (A + wt - (B - wt)) (B - wt - (A + wt)) < bl then (k2 + 1, max (A + wt - (B - wt)) (B - wt - (A + wt))) else (bi, bl) by rw [balSt, HD.out, ← HBST.out])
      have hki : (k2 : Int) < (k : Int) - 1 := by omega
      have hk2i : (k2 : Int) ≤ 17 := by omega
      clear hr e0 hks hc hcc hs1 hs2 hA hB hbst hwa hwd hlen2 hbs
      by_cases hd : max (A + wt - (B - wt)) (B - wt - (A + wt)) < bl
      · have HST2 := Lib.hid (HST.out.trans (if_pos hd))
        clear HST
        go_wp2_with fail
        go_roundw
        case rel => exact ⟨k2 + 1, by go_num, by rw [HA1.out], by rw [HB1.out], (by rw [HST2.out]; try (first | rfl | go_num)), by rw [HST2.out], by omega, Lib.hid (HW2.out.alloc HW2.out.size _)⟩
        case measure => simp [RowKit.intOf]; omega
      · have HST2 := Lib.hid (HST.out.trans (if_neg hd))
        clear HST
        go_wp2_with fail
        go_roundw
        case rel => exact ⟨k2 + 1, by go_num, by rw [HA1.out], by rw [HB1.out], (by rw [HST2.out]; try (first | rfl | go_num)), by rw [HST2.out], by omega, Lib.hid (HW2.out.alloc HW2.out.size _)⟩
        case measure => simp [RowKit.intOf]; omega
    · have hke : k = k2 + 1 := by omega
      have hki : ¬ (k2 : Int) < (k : Int) - 1 := by omega
      have HR2 := Lib.hid (show bi = heavyP l by rw [← HRES.out, hke, Nat.add_sub_cancel, ← HBST.out])
      clear hA hB hbst hwa hwd hlen2 hbs hke
      go_wp2_with fail
      go_ret
      exact ⟨by rw [← HR2.out]; rfl, HW2.out⟩

theorem balance_part : PartFn heavyP 40 := ⟨enters_of Tryd.func40 (by kernel_rfl) rfl, fun l b off cap W hS h2 h17 hok hc hm => balance_any l b off cap W hS h2 h17 hok hc hm⟩
set_option maxHeartbeats 400000 in
theorem implHeavy_any (b off cap : Nat) (d : Array CaseD) (rest : Int) (w : World) (hR : RowC w b off d) (hE : ErrAt w) (hcap : d.size ≤ cap) (hmax : cap ≤ maxLen) :
    Calls Tryd.prog 19 #[.agg #[.slice (some ⟨b, off, none⟩) d.size cap, .int .i64 rest]] w fun x w' => x = .returned (.tuple #[.string (partS heavyP d rest), .bool (swB d rest)]) ∧ RowKit.Below w.heap.size w w' := by
  obtain ⟨wa, hwa⟩ : ∃ wa, wa = w.alloc (.cells #[.slice (some ⟨b, off, none⟩) d.size cap, .int .i64 rest] 35) := ⟨_, rfl⟩
  have c0 : wa.cell? ⟨w.heap.size, 0, none⟩ = some (.slice (some ⟨b, off, none⟩) d.size cap) := by rw [hwa]; simp
  have c1 : wa.cell? ⟨w.heap.size, 1, none⟩ = some (.int .i64 rest) := by rw [hwa]; simp
  have hba : RowKit.Below w.heap.size w wa := by rw [hwa]; exact (Below.refl _ _).alloc (Nat.le_refl _) _
  have HC := Lib.hid (parted_any heavyP heavyP_ok 40 balance_part b off cap d rest wa (hR.below hba) (hE.below hba) hcap hmax)
  have HA := Lib.hid hba
  have HWA := Lib.hid hwa
  obtain ⟨q, hq⟩ : ∃ q, q = partS heavyP d rest := ⟨_, rfl⟩
  obtain ⟨sw, hsw⟩ : ∃ sw, sw = swB d rest := ⟨_, rfl⟩
  rw [← hq, ← hsw] at HC ⊢
  clear hq hsw hwa hba hR hE
  go_enter Tryd.func19, Tryd.ntmps19
  go_wp2_with fail
  rw [← HWA.out]
  refine HC.out.mono ?_
  rintro x w1 ⟨rfl, hb⟩
  have HB := Lib.hid (HA.out.trans (hb.mono HA.out.size))
  clear hb
  go_wp2
  go_ret2
  exact ⟨rfl, HB.out⟩
end Go.Proofs.YtndnbeijmhcepaaDoor
