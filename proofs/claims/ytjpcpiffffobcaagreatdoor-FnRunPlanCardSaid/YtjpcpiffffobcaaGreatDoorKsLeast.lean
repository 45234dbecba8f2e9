
/- The best plan of the model: l8Plans. · LeastPrice: the program's and the model's. -/
import Derived.Test.YtjpcpiffffobcaaGreatDoorKsTailC
import Derived.Test.YtjpcpiffffobcaaGreatDoorKsPriS
namespace Go.Proofs.YtjpcpiffffobcaaGreatDoor
open Go.RowKit Go.Shelf Go.Lib Go.Sort

theorem addr_ne8 {b b' : Nat} (h : b ≠ b') (o o' : Nat) : (⟨b, o, none⟩ : Addr) ≠ ⟨b', o', none⟩ := fun e => h (congrArg Addr.block e)
theorem tabT_low {d : Array CaseD} : ∀ m j, j + m < d.size → tabT d m j = (0, 0)
  | 0, _, _ => rfl
  | m + 1, j, h => by
    have e3 : tabT d (m + 1) j = tabT d m j := if_neg (by omega)
    rw [e3]
    exact tabT_low m j (by omega)
theorem run_mkI8 (n : Nat) (hn : n ≤ 1000) (W : World) :
    (Instr.makeSlice 84 (.int .i64 (n : Int)) (.int .i64 (n : Int))).run Tryz.prog W = .ok (.slice (some ⟨W.heap.size, 0, none⟩) n n) (W.alloc (.cells (madeCells #[.int .i64 0] n) 3)) := by
  obtain ⟨i0, hi, hz0, hz1, hz2⟩ := info_parts (show (Tryz.prog.info? 3).map (fun i => (i.zero, i.size, i.bytes)) = some (some (.int .i64 0), 1, 8) by kernel_rfl)
  have h := run_make (P := Tryz.prog) W 84 3 i0 _ Tryz.underlying84 hi hz0 .i64 .i64 (n : Int) (n : Int) (by omega) (by omega) (by rw [hz2]; omega) (by omega)
  rw [hz1] at h
  simp only [Int.toNat_natCast, Nat.mul_one] at h
  exact h
theorem box_made8 (n : Nat) (w : World) : BoxF (w.alloc (.cells (madeCells #[.int .i64 0] n) 3)) w.heap.size n (fun _ => 0) :=
  ⟨by simp, fun j hj => by simp [madeCells, hj, Nat.mod_one], fun j => by simp⟩
theorem box_alloc8 {w : World} {g n : Nat} {f : Nat → Int} (h : BoxF w g n f) (o : Obj) : BoxF (w.alloc o) g n f := h.below ((Below.refl _ _).alloc (Nat.le_refl _) _)

/-- What the two rows hold behind t cases of a step. -/
def mixF (d : Array CaseD) (F : TF8) (i t : Nat) : TF8 := fun j => if j = i then candT d F i t else F j
theorem mixF_self (d : Array CaseD) (F : TF8) (i t : Nat) : mixF d F i t i = candT d F i t := if_pos rfl
theorem mixF_other {d : Array CaseD} {F : TF8} {i t j : Nat} (h : j ≠ i) : mixF d F i t j = F j := if_neg h
theorem mixF_yes {d : Array CaseD} {F : TF8} {i t : Nat} {c : Int} (h : candT d F i (t + 1) = (c, i + t)) (j : Nat) : (mixF d F i (t + 1) j).1 = updF (fun j => (mixF d F i t j).1) i c j ∧ ((mixF d F i (t + 1) j).2 : Int) = updF (fun j => ((mixF d F i t j).2 : Int)) i ((i : Int) + t) j := by
  by_cases e : j = i
  · subst e
    rw [mixF_self, h]
    simp [updF]
  · rw [mixF_other e]
    simp [updF, e, mixF_other e]
theorem mixF_no {d : Array CaseD} {F : TF8} {i t : Nat} (h : candT d F i (t + 1) = candT d F i t) (j : Nat) : mixF d F i (t + 1) j = mixF d F i t j := by
  by_cases e : j = i
  · subst e; rw [mixF_self, mixF_self, h]
  · rw [mixF_other e, mixF_other e]
theorem candT_yes {d : Array CaseD} {F : TF8} {i t : Nat} (h : (candT d F i t).1 < 0 ∨ costK d F i (i + t) < (candT d F i t).1) : candT d F i (t + 1) = (costK d F i (i + t), i + t) := if_pos h
theorem candT_no {d : Array CaseD} {F : TF8} {i t : Nat} (h : ¬ ((candT d F i t).1 < 0 ∨ costK d F i (i + t) < (candT d F i t).1)) : candT d F i (t + 1) = candT d F i t := if_neg h
set_option maxRecDepth 100000 in
set_option maxHeartbeats 4000000 in
theorem l8Plans_any (b off cap : Nat) (d : Array CaseD) (rest : Int) (w : World) (hR : RowC w b off d) (hok : SwOK d rest) (hcap : d.size ≤ cap) :
    Calls Tryz.prog 91 #[.agg #[.slice (some ⟨b, off, none⟩) d.size cap, .int .i64 rest]] w fun x w' => ∃ g1 g2, x = .returned (.tuple #[.slice (some ⟨g1, 0, none⟩) (d.size + 1) (d.size + 1), .slice (some ⟨g2, 0, none⟩) d.size d.size]) ∧
      BoxF w' g1 (d.size + 1) (fun j => (tabT d d.size j).1) ∧ BoxF w' g2 d.size (fun j => ((tabT d d.size j).2 : Int)) ∧ w.heap.size ≤ g1 ∧ w.heap.size ≤ g2 ∧ RowKit.Below w.heap.size w w' := by
  have HBE := Lib.hid (fun i k (hik : i ≤ k) (hk : k < d.size) W (hW : RowKit.Below w.heap.size w W) => l8Best_any b off cap d rest i k W (hR.below hW) hok hik hk hcap)
  have HOK := Lib.hid (fun m hm => tabT_ok hok m hm)
  have HCI := Lib.hid (fun m (hm : m < d.size) t (ht : d.size - 1 - m + t < d.size) => candT_in hok (tabT_ok hok m (by omega)) (i := d.size - 1 - m) (by omega) t ht)
  have HKI := Lib.hid (fun m (hm : m < d.size) k (h1 : d.size - 1 - m ≤ k) (hk : k < d.size) => costK_in hok (tabT_ok hok m (by omega)) (i := d.size - 1 - m) (by omega) h1 hk)
  have HBI := Lib.hid (fun i k (hik : i ≤ k) (hk : k < d.size) => bestP8_in (hok.sub (i := i) hk) (by rw [subD_size hk]; omega))
  have h8 := hok.size
  have h8i : (d.size : Int) ≤ 8 := by omega
  have hm1 := fun W => run_mkI8 (d.size + 1) (by omega) W
  have hm2 := fun W => run_mkI8 d.size (by omega) W
  simp only [Int.natCast_add, Int.natCast_one] at hm1
  clear hR hok
  go_enter Tryz.func91, Tryz.ntmps91
  go_wp2_with fail
  go_region
  · obtain ⟨wb, hwb⟩ : ∃ wb, wb = (((w.alloc (.cells #[.slice (some ⟨b, off, none⟩) d.size cap, .int .i64 rest] 32)).alloc (.cells (madeCells #[.int .i64 0] (d.size + 1)) 3)).alloc (.cells (madeCells #[.int .i64 0] d.size) 3)).drew := ⟨_, rfl⟩
    have e1 : (w.alloc (.cells #[.slice (some ⟨b, off, none⟩) d.size cap, .int .i64 rest] 32)).heap.size = w.heap.size + 1 := by simp
    have e2 : ((w.alloc (.cells #[.slice (some ⟨b, off, none⟩) d.size cap, .int .i64 rest] 32)).alloc (.cells (madeCells #[.int .i64 0] (d.size + 1)) 3)).heap.size = w.heap.size + 1 + 1 := by simp
    have bx1 : BoxF wb (w.heap.size + 1) (d.size + 1) (fun _ => 0) := by rw [hwb, ← e1]; exact (box_alloc8 (box_made8 _ _) _).below (Below.refl _ _).drew
    have bx2 : BoxF wb (w.heap.size + 1 + 1) d.size (fun _ => 0) := by rw [hwb, ← e2]; exact (box_made8 _ _).below (Below.refl _ _).drew
    have hbb : RowKit.Below w.heap.size w wb := by rw [hwb]; exact ((((Below.refl _ _).alloc (Nat.le_refl _) _).alloc (by simp) _).alloc (by simp; omega) _).drew
    have c0 : wb.cell? ⟨w.heap.size, 0, none⟩ = some (.slice (some ⟨b, off, none⟩) d.size cap) := by rw [hwb]; simp [go_sem]
    have c1 : wb.cell? ⟨w.heap.size, 1, none⟩ = some (.int .i64 rest) := by rw [hwb]; simp [go_sem]
    have hzb : w.heap.size < wb.heap.size := by have := bx1.lt; omega
    have HB := Lib.hid hbb
    have HP := Lib.hid (show BoxF wb (w.heap.size + 1) (d.size + 1) (fun j => (tabT d 0 j).1) from bx1)
    have HL := Lib.hid (show BoxF wb (w.heap.size + 1 + 1) d.size (fun j => ((tabT d 0 j).2 : Int)) from bx2)
    clear bx1 bx2 e1 e2 hbb
    rw [← hwb]
    clear hwb hm1 hm2
    go_wp2_with fail
    go_loopw [7] (fun x wr => ∃ m : Nat, x = .int .i64 ((d.size : Int) - 1 - m) ∧ m ≤ d.size ∧ wr.cell? ⟨w.heap.size, 0, none⟩ = some (.slice (some ⟨b, off, none⟩) d.size cap) ∧ wr.cell? ⟨w.heap.size, 1, none⟩ = some (.int .i64 rest) ∧
      Hid (BoxF wr (w.heap.size + 1) (d.size + 1) (fun j => (tabT d m j).1)) ∧ Hid (BoxF wr (w.heap.size + 1 + 1) d.size (fun j => ((tabT d m j).2 : Int))) ∧ Hid (RowKit.Below w.heap.size w wr) ∧ w.heap.size < wr.heap.size) (fun x _ => (intOf x + 1).toNat)
    case atStart => exact ⟨0, by simp, Nat.zero_le _, c0, c1, HP.out, HL.out, HB.out, hzb⟩
    case round =>
      obtain ⟨m, rfl, hm, c0, c1, HP, HL, HW, hzr⟩ := hrel
      by_cases hlt : m < d.size
      · have hg := HP.out.lt
        obtain ⟨i, hi⟩ : ∃ i : Nat, i = d.size - 1 - m := ⟨_, rfl⟩
        have hi2 : (d.size : Int) - 1 - m = (i : Int) := by omega
        rw [hi2]
        have hin : i < d.size := by omega
        have HCI1 := Lib.hid (HCI.out m hlt)
        have HKI1 := Lib.hid (HKI.out m hlt)
        have HBI1 := Lib.hid (HBI.out i)
        have HBE1 := Lib.hid (HBE.out i)
        have HOK1 := Lib.hid (HOK.out m hm)
        rw [← hi] at HCI1 HKI1
        have hlow := tabT_low (d := d) m i (by omega)
        have HLOW := Lib.hid hlow
        have p0 := HP.out.cell i (by omega)
        have pf := HP.out.froz i
        have hii : (i : Int) < (d.size : Int) + 1 := by omega
        have hii0 : (0 : Int) ≤ (i : Int) := by omega
        have HI := Lib.hid hi
        have HI2 := Lib.hid hi2
        obtain ⟨wo, rfl⟩ : ∃ wo, wo = wr := ⟨_, rfl⟩
        clear hi hi2 hlow
        go_wp2_with fail
        have b1 := (HP.out.set (i := i) (by omega) (-1))
        have b2 := (HL.out.other (b := w.heap.size + 1) (o := i) (by omega) (.int .i64 (-1)))
        have d0 : (wo.setCell ⟨w.heap.size + 1, i, none⟩ (.int .i64 (-1))).cell? ⟨w.heap.size, 0, none⟩ = some (.slice (some ⟨b, off, none⟩) d.size cap) := by
          rw [World.cell?_setCell_other _ _ _ _ (addr_ne8 (by omega) _ _)]; exact c0
        have d1 : (wo.setCell ⟨w.heap.size + 1, i, none⟩ (.int .i64 (-1))).cell? ⟨w.heap.size, 1, none⟩ = some (.int .i64 rest) := by
          rw [World.cell?_setCell_other _ _ _ _ (addr_ne8 (by omega) _ _)]; exact c1
        have hb1 := HW.out.setCell (p := ⟨w.heap.size + 1, i, none⟩) (by show w.heap.size ≤ w.heap.size + 1; omega) (.int .i64 (-1))
        have hz1 : w.heap.size < (wo.setCell ⟨w.heap.size + 1, i, none⟩ (.int .i64 (-1))).heap.size := by simpa [World.setCell] using hzr
        obtain ⟨w1, hw1⟩ : ∃ w1, w1 = wo.setCell ⟨w.heap.size + 1, i, none⟩ (.int .i64 (-1)) := ⟨_, rfl⟩
        rw [← hw1] at b1 b2 d0 d1 hb1 hz1 ⊢
        have HP1 := Lib.hid (show BoxF w1 (w.heap.size + 1) (d.size + 1) (fun j => (mixF d (tabT d m) i 0 j).1) from b1.congr (fun j _ => by
          by_cases e : j = i
          · subst e; simp [mixF_self, candT, updF]
          · simp [mixF_other e, updF, e]))
        have HL1 := Lib.hid (show BoxF w1 (w.heap.size + 1 + 1) d.size (fun j => ((mixF d (tabT d m) i 0 j).2 : Int)) from b2.congr (fun j _ => by
          by_cases e : j = i
          · subst e; simp [mixF_self, candT, HLOW.out]
          · simp [mixF_other e]))
        have HW1 := Lib.hid hb1
        clear hw1 b1 b2 hb1 c0 c1 HP HL HW hzr p0 pf hg
        go_loopw [8] (fun x wr => ∃ t : Nat, x = .int .i64 ((i : Int) + t) ∧ i + t ≤ d.size ∧ wr.cell? ⟨w.heap.size, 0, none⟩ = some (.slice (some ⟨b, off, none⟩) d.size cap) ∧ wr.cell? ⟨w.heap.size, 1, none⟩ = some (.int .i64 rest) ∧
          Hid (BoxF wr (w.heap.size + 1) (d.size + 1) (fun j => (mixF d (tabT d m) i t j).1)) ∧ Hid (BoxF wr (w.heap.size + 1 + 1) d.size (fun j => ((mixF d (tabT d m) i t j).2 : Int))) ∧ Hid (RowKit.Below w.heap.size w wr) ∧ w.heap.size < wr.heap.size) (fun x _ => ((d.size : Int) - intOf x).toNat)
        case atStart => exact ⟨0, by simp, by omega, d0, d1, HP1.out, HL1.out, HW1.out, hz1⟩
        case round =>
          obtain ⟨t, rfl, ht, c0, c1, HP, HL, HW, hzr⟩ := hrel
          by_cases hkt : i + t < d.size
          · have x0 := HP.out.cell i (by omega)
            have xf := HP.out.froz i
            have v0 := HL.out.cell i hin
            have vf := HL.out.froz i
            have g1 := HP.out.lt
            have g2 := HL.out.lt
            have xk := HP.out.cell (i + t + 1) (by omega)
            simp only [mixF_self] at x0 v0
            simp only [mixF_other (show i + t + 1 ≠ i by omega)] at xk
            have HCL := Lib.hid (HBE1.out (i + t) (by omega) hkt wr HW.out)
            have hbp := HBI1.out (i + t) (by omega) hkt
            have hco := HKI1.out (i + t) (by omega) hkt
            have hci : ((candT d (tabT d m) i t).1 = -1) ∨ (1 ≤ (candT d (tabT d m) i t).1 ∧ (candT d (tabT d m) i t).1 ≤ 20 * ((d.size : Int) - i)) := by
              cases t with
              | zero => exact .inl rfl
              | succ t => exact .inr (HCI1.out t (by omega)).1
            have HCY := Lib.hid (@candT_yes d (tabT d m) i t)
            have HCN := Lib.hid (@candT_no d (tabT d m) i t)
            have HCK := Lib.hid (show costK d (tabT d m) i (i + t) = bestP8 (subD d i (i + t)) + (if i + t + 1 < d.size then 2 + (tabT d m (i + t + 1)).1 else 0) from rfl)
            have hfk : i + t + 1 < d.size → 1 ≤ (tabT d m (i + t + 1)).1 ∧ (tabT d m (i + t + 1)).1 ≤ 160 := fun h => by
              have := (HOK1.out.2 (i + t + 1) (by have := HI.out; omega) h).1
              omega
            obtain ⟨P, hP⟩ : ∃ P, P = (candT d (tabT d m) i t).1 := ⟨_, rfl⟩
            rw [← hP] at x0 hci HCY HCN
            obtain ⟨L0, hL0⟩ : ∃ L0 : Int, L0 = ((candT d (tabT d m) i t).2 : Int) := ⟨_, rfl⟩
            rw [← hL0] at v0
            obtain ⟨bp, hbpe⟩ : ∃ z, z = bestP8 (subD d i (i + t)) := ⟨_, rfl⟩
            rw [← hbpe] at HCL hbp HCK
            obtain ⟨bn, hbne⟩ : ∃ z, z = bestN8 (subD d i (i + t)) := ⟨_, rfl⟩
            rw [← hbne] at HCL
            obtain ⟨fk, hfke⟩ : ∃ z, z = (tabT d m (i + t + 1)).1 := ⟨_, rfl⟩
            rw [← hfke] at xk hfk HCK
            obtain ⟨c, hce⟩ : ∃ z, z = costK d (tabT d m) i (i + t) := ⟨_, rfl⟩
            rw [← hce] at HCK HCY HCN hco
            simp only [Int.natCast_add] at HCL
            clear hP hL0 hbpe hbne hfke hce
            have hkl : (i : Int) + t < (d.size : Int) := by omega
            by_cases hmore : i + t + 1 < d.size
            · have hck : bp + 2 + fk = c := by have := HCK.out; rw [if_pos hmore] at this; omega
              have hfk2 := hfk hmore
              have hml : (i : Int) + t + 1 < (d.size : Int) := by omega
              clear hfk HCK
              rcases hci with rfl | hPr
              · have HYES := Lib.hid (HCY.out (.inl (by omega)))
                go_wp2_with (go_at_call 65; refine HCL.out.mono ?_; rintro y w2 ⟨rfl, hb⟩; have HB2 := Lib.hid hb; have y0 := (hb.cell (p := ⟨w.heap.size + 1, i, none⟩) g1).trans x0; have yf := (hb.frozen (p := ⟨w.heap.size + 1, i, none⟩) g1).trans xf; have z0 := (hb.cell (p := ⟨w.heap.size + 1 + 1, i, none⟩) g2).trans v0; have zf := (hb.frozen (p := ⟨w.heap.size + 1 + 1, i, none⟩) g2).trans vf; have yk := (hb.cell (p := ⟨w.heap.size + 1, i + t + 1, none⟩) g1).trans xk; clear xk; clear hb x0 xf v0 vf)
                go_roundw
                case rel =>
                  have hb := HB2.out
                  have b1 := (((HP.out.below hb).set (i := i) (by omega) c).other (b := w.heap.size + 1 + 1) (o := i) (by omega) (.int .i64 ((i : Int) + t)))
                  have b2 := (((HL.out.below hb).other (b := w.heap.size + 1) (o := i) (by omega) (.int .i64 c)).set (i := i) hin ((i : Int) + t))
                  refine ⟨t + 1, by congr 1 <;> omega, by omega, ?_, ?_, b1.congr (fun j _ => (mixF_yes HYES.out j).1), b2.congr (fun j _ => (mixF_yes HYES.out j).2), ?_, ?_⟩
                  · rw [World.cell?_setCell_other _ _ _ _ (addr_ne8 (by omega) _ _), World.cell?_setCell_other _ _ _ _ (addr_ne8 (by omega) _ _)]
                    exact (hb.cell (p := ⟨w.heap.size, 0, none⟩) hzr).trans c0
                  · rw [World.cell?_setCell_other _ _ _ _ (addr_ne8 (by omega) _ _), World.cell?_setCell_other _ _ _ _ (addr_ne8 (by omega) _ _)]
                    exact (hb.cell (p := ⟨w.heap.size, 1, none⟩) hzr).trans c1
                  · exact ((HW.out.trans (hb.mono HW.out.size)).setCell (p := ⟨w.heap.size + 1, i, none⟩) (by show w.heap.size ≤ w.heap.size + 1; omega) _).setCell (p := ⟨w.heap.size + 1 + 1, i, none⟩) (by show w.heap.size ≤ w.heap.size + 1 + 1; omega) _
                  · simpa [World.setCell] using Nat.lt_of_lt_of_le hzr hb.size
                case measure => simp [intOf]; omega
              · have hPn : ¬ P < 0 := by omega
                by_cases hlt2 : c < P
                · have HYES := Lib.hid (HCY.out (.inr hlt2))
                  go_wp2_with (go_at_call 65; refine HCL.out.mono ?_; rintro y w2 ⟨rfl, hb⟩; have HB2 := Lib.hid hb; have y0 := (hb.cell (p := ⟨w.heap.size + 1, i, none⟩) g1).trans x0; have yf := (hb.frozen (p := ⟨w.heap.size + 1, i, none⟩) g1).trans xf; have z0 := (hb.cell (p := ⟨w.heap.size + 1 + 1, i, none⟩) g2).trans v0; have zf := (hb.frozen (p := ⟨w.heap.size + 1 + 1, i, none⟩) g2).trans vf; have yk := (hb.cell (p := ⟨w.heap.size + 1, i + t + 1, none⟩) g1).trans xk; clear xk; clear hb x0 xf v0 vf)
                  go_roundw
                  case rel =>
                    have hb := HB2.out
                    have b1 := (((HP.out.below hb).set (i := i) (by omega) c).other (b := w.heap.size + 1 + 1) (o := i) (by omega) (.int .i64 ((i : Int) + t)))
                    have b2 := (((HL.out.below hb).other (b := w.heap.size + 1) (o := i) (by omega) (.int .i64 c)).set (i := i) hin ((i : Int) + t))
                    refine ⟨t + 1, by congr 1 <;> omega, by omega, ?_, ?_, b1.congr (fun j _ => (mixF_yes HYES.out j).1), b2.congr (fun j _ => (mixF_yes HYES.out j).2), ?_, ?_⟩
                    · rw [World.cell?_setCell_other _ _ _ _ (addr_ne8 (by omega) _ _), World.cell?_setCell_other _ _ _ _ (addr_ne8 (by omega) _ _)]
                      exact (hb.cell (p := ⟨w.heap.size, 0, none⟩) hzr).trans c0
                    · rw [World.cell?_setCell_other _ _ _ _ (addr_ne8 (by omega) _ _), World.cell?_setCell_other _ _ _ _ (addr_ne8 (by omega) _ _)]
                      exact (hb.cell (p := ⟨w.heap.size, 1, none⟩) hzr).trans c1
                    · exact ((HW.out.trans (hb.mono HW.out.size)).setCell (p := ⟨w.heap.size + 1, i, none⟩) (by show w.heap.size ≤ w.heap.size + 1; omega) _).setCell (p := ⟨w.heap.size + 1 + 1, i, none⟩) (by show w.heap.size ≤ w.heap.size + 1 + 1; omega) _
                    · simpa [World.setCell] using Nat.lt_of_lt_of_le hzr hb.size
                  case measure => simp [intOf]; omega
                · have HNO := Lib.hid (HCN.out (by omega))
                  go_wp2_with (go_at_call 65; refine HCL.out.mono ?_; rintro y w2 ⟨rfl, hb⟩; have HB2 := Lib.hid hb; have y0 := (hb.cell (p := ⟨w.heap.size + 1, i, none⟩) g1).trans x0; have yf := (hb.frozen (p := ⟨w.heap.size + 1, i, none⟩) g1).trans xf; have z0 := (hb.cell (p := ⟨w.heap.size + 1 + 1, i, none⟩) g2).trans v0; have zf := (hb.frozen (p := ⟨w.heap.size + 1 + 1, i, none⟩) g2).trans vf; have yk := (hb.cell (p := ⟨w.heap.size + 1, i + t + 1, none⟩) g1).trans xk; clear xk; clear hb x0 xf v0 vf)
                  go_roundw
                  case rel =>
                    have hb := HB2.out
                    exact ⟨t + 1, by congr 1 <;> omega, by omega, (hb.cell (p := ⟨w.heap.size, 0, none⟩) hzr).trans c0, (hb.cell (p := ⟨w.heap.size, 1, none⟩) hzr).trans c1, (HP.out.below hb).congr (fun j _ => by rw [mixF_no HNO.out]), (HL.out.below hb).congr (fun j _ => by rw [mixF_no HNO.out]), HW.out.trans (hb.mono HW.out.size), Nat.lt_of_lt_of_le hzr hb.size⟩
                  case measure => simp [intOf]; omega
            · have hck : bp = c := by have := HCK.out; rw [if_neg hmore] at this; omega
              have hml : ¬ (i : Int) + t + 1 < (d.size : Int) := by omega
              clear hfk HCK xk
              subst hck
              rcases hci with rfl | hPr
              · have HYES := Lib.hid (HCY.out (.inl (by omega)))
                go_wp2_with (go_at_call 65; refine HCL.out.mono ?_; rintro y w2 ⟨rfl, hb⟩; have HB2 := Lib.hid hb; have y0 := (hb.cell (p := ⟨w.heap.size + 1, i, none⟩) g1).trans x0; have yf := (hb.frozen (p := ⟨w.heap.size + 1, i, none⟩) g1).trans xf; have z0 := (hb.cell (p := ⟨w.heap.size + 1 + 1, i, none⟩) g2).trans v0; have zf := (hb.frozen (p := ⟨w.heap.size + 1 + 1, i, none⟩) g2).trans vf; clear hb x0 xf v0 vf)
                go_roundw
                case rel =>
                  have hb := HB2.out
                  have b1 := (((HP.out.below hb).set (i := i) (by omega) bp).other (b := w.heap.size + 1 + 1) (o := i) (by omega) (.int .i64 ((i : Int) + t)))
                  have b2 := (((HL.out.below hb).other (b := w.heap.size + 1) (o := i) (by omega) (.int .i64 bp)).set (i := i) hin ((i : Int) + t))
                  refine ⟨t + 1, by congr 1 <;> omega, by omega, ?_, ?_, b1.congr (fun j _ => (mixF_yes HYES.out j).1), b2.congr (fun j _ => (mixF_yes HYES.out j).2), ?_, ?_⟩
                  · rw [World.cell?_setCell_other _ _ _ _ (addr_ne8 (by omega) _ _), World.cell?_setCell_other _ _ _ _ (addr_ne8 (by omega) _ _)]
                    exact (hb.cell (p := ⟨w.heap.size, 0, none⟩) hzr).trans c0
                  · rw [World.cell?_setCell_other _ _ _ _ (addr_ne8 (by omega) _ _), World.cell?_setCell_other _ _ _ _ (addr_ne8 (by omega) _ _)]
                    exact (hb.cell (p := ⟨w.heap.size, 1, none⟩) hzr).trans c1
                  · exact ((HW.out.trans (hb.mono HW.out.size)).setCell (p := ⟨w.heap.size + 1, i, none⟩) (by show w.heap.size ≤ w.heap.size + 1; omega) _).setCell (p := ⟨w.heap.size + 1 + 1, i, none⟩) (by show w.heap.size ≤ w.heap.size + 1 + 1; omega) _
                  · simpa [World.setCell] using Nat.lt_of_lt_of_le hzr hb.size
                case measure => simp [intOf]; omega
              · have hPn : ¬ P < 0 := by omega
                by_cases hlt2 : bp < P
                · have HYES := Lib.hid (HCY.out (.inr hlt2))
                  go_wp2_with (go_at_call 65; refine HCL.out.mono ?_; rintro y w2 ⟨rfl, hb⟩; have HB2 := Lib.hid hb; have y0 := (hb.cell (p := ⟨w.heap.size + 1, i, none⟩) g1).trans x0; have yf := (hb.frozen (p := ⟨w.heap.size + 1, i, none⟩) g1).trans xf; have z0 := (hb.cell (p := ⟨w.heap.size + 1 + 1, i, none⟩) g2).trans v0; have zf := (hb.frozen (p := ⟨w.heap.size + 1 + 1, i, none⟩) g2).trans vf; clear hb x0 xf v0 vf)
                  go_roundw
                  case rel =>
                    have hb := HB2.out
                    have b1 := (((HP.out.below hb).set (i := i) (by omega) bp).other (b := w.heap.size + 1 + 1) (o := i) (by omega) (.int .i64 ((i : Int) + t)))
                    have b2 := (((HL.out.below hb).other (b := w.heap.size + 1) (o := i) (by omega) (.int .i64 bp)).set (i := i) hin ((i : Int) + t))
                    refine ⟨t + 1, by congr 1 <;> omega, by omega, ?_, ?_, b1.congr (fun j _ => (mixF_yes HYES.out j).1), b2.congr (fun j _ => (mixF_yes HYES.out j).2), ?_, ?_⟩
                    · rw [World.cell?_setCell_other _ _ _ _ (addr_ne8 (by omega) _ _), World.cell?_setCell_other _ _ _ _ (addr_ne8 (by omega) _ _)]
                      exact (hb.cell (p := ⟨w.heap.size, 0, none⟩) hzr).trans c0
                    · rw [World.cell?_setCell_other _ _ _ _ (addr_ne8 (by omega) _ _), World.cell?_setCell_other _ _ _ _ (addr_ne8 (by omega) _ _)]
                      exact (hb.cell (p := ⟨w.heap.size, 1, none⟩) hzr).trans c1
                    · exact ((HW.out.trans (hb.mono HW.out.size)).setCell (p := ⟨w.heap.size + 1, i, none⟩) (by show w.heap.size ≤ w.heap.size + 1; omega) _).setCell (p := ⟨w.heap.size + 1 + 1, i, none⟩) (by show w.heap.size ≤ w.heap.size + 1 + 1; omega) _
                    · simpa [World.setCell] using Nat.lt_of_lt_of_le hzr hb.size
                  case measure => simp [intOf]; omega
                · have HNO := Lib.hid (HCN.out (by omega))
                  go_wp2_with (go_at_call 65; refine HCL.out.mono ?_; rintro y w2 ⟨rfl, hb⟩; have HB2 := Lib.hid hb; have y0 := (hb.cell (p := ⟨w.heap.size + 1, i, none⟩) g1).trans x0; have yf := (hb.frozen (p := ⟨w.heap.size + 1, i, none⟩) g1).trans xf; have z0 := (hb.cell (p := ⟨w.heap.size + 1 + 1, i, none⟩) g2).trans v0; have zf := (hb.frozen (p := ⟨w.heap.size + 1 + 1, i, none⟩) g2).trans vf; clear hb x0 xf v0 vf)
                  go_roundw
                  case rel =>
                    have hb := HB2.out
                    exact ⟨t + 1, by congr 1 <;> omega, by omega, (hb.cell (p := ⟨w.heap.size, 0, none⟩) hzr).trans c0, (hb.cell (p := ⟨w.heap.size, 1, none⟩) hzr).trans c1, (HP.out.below hb).congr (fun j _ => by rw [mixF_no HNO.out]), (HL.out.below hb).congr (fun j _ => by rw [mixF_no HNO.out]), HW.out.trans (hb.mono HW.out.size), Nat.lt_of_lt_of_le hzr hb.size⟩
                  case measure => simp [intOf]; omega
          · have hke : t = d.size - i := by omega
            subst hke
            have hkl : ¬ (i : Int) + ((d.size - i : Nat) : Int) < (d.size : Int) := by omega
            go_wp2_with fail
            go_roundw
            case rel =>
              have hmm : mixF d (tabT d m) i (d.size - i) = tabT d (m + 1) := by
                rw [HI.out]; rfl
              rw [hmm] at HP HL
              exact ⟨m + 1, by have := HI2.out; congr 1 <;> omega, by omega, c0, c1, HP.out, HL.out, HW.out, hzr⟩
            case measure => simp [intOf] <;> omega
      · have hme : m = d.size := by omega
        subst hme
        have hneg : ¬ (0 : Int) ≤ (d.size : Int) - 1 - (d.size : Int) := by omega
        go_wp2_with fail
        refine bodyPost_ret (v := .tuple #[.slice (some ⟨w.heap.size + 1, 0, none⟩) (d.size + 1) (d.size + 1), .slice (some ⟨w.heap.size + 1 + 1, 0, none⟩) d.size d.size]) (by simp [results, Tryz.results91, go_sem]) rfl ⟨_, _, rfl, HP.out, HL.out, by omega, by omega, HW.out⟩
  · obtain ⟨wb, hwb⟩ : ∃ wb, wb = (((w.alloc (.cells #[.slice (some ⟨b, off, none⟩) d.size cap, .int .i64 rest] 32)).alloc (.cells (madeCells #[.int .i64 0] d.size) 3)).alloc (.cells (madeCells #[.int .i64 0] (d.size + 1)) 3)).drew := ⟨_, rfl⟩
    have e1 : (w.alloc (.cells #[.slice (some ⟨b, off, none⟩) d.size cap, .int .i64 rest] 32)).heap.size = w.heap.size + 1 := by simp
    have e2 : ((w.alloc (.cells #[.slice (some ⟨b, off, none⟩) d.size cap, .int .i64 rest] 32)).alloc (.cells (madeCells #[.int .i64 0] d.size) 3)).heap.size = w.heap.size + 1 + 1 := by simp
    have bx1 : BoxF wb (w.heap.size + 1) d.size (fun _ => 0) := by rw [hwb, ← e1]; exact (box_alloc8 (box_made8 _ _) _).below (Below.refl _ _).drew
    have bx2 : BoxF wb (w.heap.size + 1 + 1) (d.size + 1) (fun _ => 0) := by rw [hwb, ← e2]; exact (box_made8 _ _).below (Below.refl _ _).drew
    have hbb : RowKit.Below w.heap.size w wb := by rw [hwb]; exact ((((Below.refl _ _).alloc (Nat.le_refl _) _).alloc (by simp) _).alloc (by simp; omega) _).drew
    have c0 : wb.cell? ⟨w.heap.size, 0, none⟩ = some (.slice (some ⟨b, off, none⟩) d.size cap) := by rw [hwb]; simp [go_sem]
    have c1 : wb.cell? ⟨w.heap.size, 1, none⟩ = some (.int .i64 rest) := by rw [hwb]; simp [go_sem]
    have hzb : w.heap.size < wb.heap.size := by have := bx1.lt; omega
    have HB := Lib.hid hbb
    have HP := Lib.hid (show BoxF wb (w.heap.size + 1 + 1) (d.size + 1) (fun j => (tabT d 0 j).1) from bx2)
    have HL := Lib.hid (show BoxF wb (w.heap.size + 1) d.size (fun j => ((tabT d 0 j).2 : Int)) from bx1)
    clear bx1 bx2 e1 e2 hbb
    rw [← hwb]
    clear hwb hm1 hm2
    go_wp2_with fail
    go_loopw [7] (fun x wr => ∃ m : Nat, x = .int .i64 ((d.size : Int) - 1 - m) ∧ m ≤ d.size ∧ wr.cell? ⟨w.heap.size, 0, none⟩ = some (.slice (some ⟨b, off, none⟩) d.size cap) ∧ wr.cell? ⟨w.heap.size, 1, none⟩ = some (.int .i64 rest) ∧
      Hid (BoxF wr (w.heap.size + 1 + 1) (d.size + 1) (fun j => (tabT d m j).1)) ∧ Hid (BoxF wr (w.heap.size + 1) d.size (fun j => ((tabT d m j).2 : Int))) ∧ Hid (RowKit.Below w.heap.size w wr) ∧ w.heap.size < wr.heap.size) (fun x _ => (intOf x + 1).toNat)
    case atStart => exact ⟨0, by simp, Nat.zero_le _, c0, c1, HP.out, HL.out, HB.out, hzb⟩
    case round =>
      obtain ⟨m, rfl, hm, c0, c1, HP, HL, HW, hzr⟩ := hrel
      by_cases hlt : m < d.size
      · have hg := HP.out.lt
        obtain ⟨i, hi⟩ : ∃ i : Nat, i = d.size - 1 - m := ⟨_, rfl⟩
        have hi2 : (d.size : Int) - 1 - m = (i : Int) := by omega
        rw [hi2]
        have hin : i < d.size := by omega
        have HCI1 := Lib.hid (HCI.out m hlt)
        have HKI1 := Lib.hid (HKI.out m hlt)
        have HBI1 := Lib.hid (HBI.out i)
        have HBE1 := Lib.hid (HBE.out i)
        have HOK1 := Lib.hid (HOK.out m hm)
        rw [← hi] at HCI1 HKI1
        have hlow := tabT_low (d := d) m i (by omega)
        have HLOW := Lib.hid hlow
        have p0 := HP.out.cell i (by omega)
        have pf := HP.out.froz i
        have hii : (i : Int) < (d.size : Int) + 1 := by omega
        have hii0 : (0 : Int) ≤ (i : Int) := by omega
        have HI := Lib.hid hi
        have HI2 := Lib.hid hi2
        obtain ⟨wo, rfl⟩ : ∃ wo, wo = wr := ⟨_, rfl⟩
        clear hi hi2 hlow
        go_wp2_with fail
        have b1 := (HP.out.set (i := i) (by omega) (-1))
        have b2 := (HL.out.other (b := w.heap.size + 1 + 1) (o := i) (by omega) (.int .i64 (-1)))
        have d0 : (wo.setCell ⟨w.heap.size + 1 + 1, i, none⟩ (.int .i64 (-1))).cell? ⟨w.heap.size, 0, none⟩ = some (.slice (some ⟨b, off, none⟩) d.size cap) := by
          rw [World.cell?_setCell_other _ _ _ _ (addr_ne8 (by omega) _ _)]; exact c0
        have d1 : (wo.setCell ⟨w.heap.size + 1 + 1, i, none⟩ (.int .i64 (-1))).cell? ⟨w.heap.size, 1, none⟩ = some (.int .i64 rest) := by
          rw [World.cell?_setCell_other _ _ _ _ (addr_ne8 (by omega) _ _)]; exact c1
        have hb1 := HW.out.setCell (p := ⟨w.heap.size + 1 + 1, i, none⟩) (by show w.heap.size ≤ w.heap.size + 1 + 1; omega) (.int .i64 (-1))
        have hz1 : w.heap.size < (wo.setCell ⟨w.heap.size + 1 + 1, i, none⟩ (.int .i64 (-1))).heap.size := by simpa [World.setCell] using hzr
        obtain ⟨w1, hw1⟩ : ∃ w1, w1 = wo.setCell ⟨w.heap.size + 1 + 1, i, none⟩ (.int .i64 (-1)) := ⟨_, rfl⟩
        rw [← hw1] at b1 b2 d0 d1 hb1 hz1 ⊢
        have HP1 := Lib.hid (show BoxF w1 (w.heap.size + 1 + 1) (d.size + 1) (fun j => (mixF d (tabT d m) i 0 j).1) from b1.congr (fun j _ => by
          by_cases e : j = i
          · subst e; simp [mixF_self, candT, updF]
          · simp [mixF_other e, updF, e]))
        have HL1 := Lib.hid (show BoxF w1 (w.heap.size + 1) d.size (fun j => ((mixF d (tabT d m) i 0 j).2 : Int)) from b2.congr (fun j _ => by
          by_cases e : j = i
          · subst e; simp [mixF_self, candT, HLOW.out]
          · simp [mixF_other e]))
        have HW1 := Lib.hid hb1
        clear hw1 b1 b2 hb1 c0 c1 HP HL HW hzr p0 pf hg
        go_loopw [8] (fun x wr => ∃ t : Nat, x = .int .i64 ((i : Int) + t) ∧ i + t ≤ d.size ∧ wr.cell? ⟨w.heap.size, 0, none⟩ = some (.slice (some ⟨b, off, none⟩) d.size cap) ∧ wr.cell? ⟨w.heap.size, 1, none⟩ = some (.int .i64 rest) ∧
          Hid (BoxF wr (w.heap.size + 1 + 1) (d.size + 1) (fun j => (mixF d (tabT d m) i t j).1)) ∧ Hid (BoxF wr (w.heap.size + 1) d.size (fun j => ((mixF d (tabT d m) i t j).2 : Int))) ∧ Hid (RowKit.Below w.heap.size w wr) ∧ w.heap.size < wr.heap.size) (fun x _ => ((d.size : Int) - intOf x).toNat)
        case atStart => exact ⟨0, by simp, by omega, d0, d1, HP1.out, HL1.out, HW1.out, hz1⟩
        case round =>
          obtain ⟨t, rfl, ht, c0, c1, HP, HL, HW, hzr⟩ := hrel
          by_cases hkt : i + t < d.size
          · have x0 := HP.out.cell i (by omega)
            have xf := HP.out.froz i
            have v0 := HL.out.cell i hin
            have vf := HL.out.froz i
            have g1 := HP.out.lt
            have g2 := HL.out.lt
            have xk := HP.out.cell (i + t + 1) (by omega)
            simp only [mixF_self] at x0 v0
            simp only [mixF_other (show i + t + 1 ≠ i by omega)] at xk
            have HCL := Lib.hid (HBE1.out (i + t) (by omega) hkt wr HW.out)
            have hbp := HBI1.out (i + t) (by omega) hkt
            have hco := HKI1.out (i + t) (by omega) hkt
            have hci : ((candT d (tabT d m) i t).1 = -1) ∨ (1 ≤ (candT d (tabT d m) i t).1 ∧ (candT d (tabT d m) i t).1 ≤ 20 * ((d.size : Int) - i)) := by
              cases t with
              | zero => exact .inl rfl
              | succ t => exact .inr (HCI1.out t (by omega)).1
            have HCY := Lib.hid (@candT_yes d (tabT d m) i t)
            have HCN := Lib.hid (@candT_no d (tabT d m) i t)
            have HCK := Lib.hid (show costK d (tabT d m) i (i + t) = bestP8 (subD d i (i + t)) + (if i + t + 1 < d.size then 2 + (tabT d m (i + t + 1)).1 else 0) from rfl)
            have hfk : i + t + 1 < d.size → 1 ≤ (tabT d m (i + t + 1)).1 ∧ (tabT d m (i + t + 1)).1 ≤ 160 := fun h => by
              have := (HOK1.out.2 (i + t + 1) (by have := HI.out; omega) h).1
              omega
            obtain ⟨P, hP⟩ : ∃ P, P = (candT d (tabT d m) i t).1 := ⟨_, rfl⟩
            rw [← hP] at x0 hci HCY HCN
            obtain ⟨L0, hL0⟩ : ∃ L0 : Int, L0 = ((candT d (tabT d m) i t).2 : Int) := ⟨_, rfl⟩
            rw [← hL0] at v0
            obtain ⟨bp, hbpe⟩ : ∃ z, z = bestP8 (subD d i (i + t)) := ⟨_, rfl⟩
            rw [← hbpe] at HCL hbp HCK
            obtain ⟨bn, hbne⟩ : ∃ z, z = bestN8 (subD d i (i + t)) := ⟨_, rfl⟩
            rw [← hbne] at HCL
            obtain ⟨fk, hfke⟩ : ∃ z, z = (tabT d m (i + t + 1)).1 := ⟨_, rfl⟩
            rw [← hfke] at xk hfk HCK
            obtain ⟨c, hce⟩ : ∃ z, z = costK d (tabT d m) i (i + t) := ⟨_, rfl⟩
            rw [← hce] at HCK HCY HCN hco
            simp only [Int.natCast_add] at HCL
            clear hP hL0 hbpe hbne hfke hce
            have hkl : (i : Int) + t < (d.size : Int) := by omega
            by_cases hmore : i + t + 1 < d.size
            · have hck : bp + 2 + fk = c := by have := HCK.out; rw [if_pos hmore] at this; omega
              have hfk2 := hfk hmore
              have hml : (i : Int) + t + 1 < (d.size : Int) := by omega
              clear hfk HCK
              rcases hci with rfl | hPr
              · have HYES := Lib.hid (HCY.out (.inl (by omega)))
                go_wp2_with (go_at_call 65; refine HCL.out.mono ?_; rintro y w2 ⟨rfl, hb⟩; have HB2 := Lib.hid hb; have y0 := (hb.cell (p := ⟨w.heap.size + 1 + 1, i, none⟩) g1).trans x0; have yf := (hb.frozen (p := ⟨w.heap.size + 1 + 1, i, none⟩) g1).trans xf; have z0 := (hb.cell (p := ⟨w.heap.size + 1, i, none⟩) g2).trans v0; have zf := (hb.frozen (p := ⟨w.heap.size + 1, i, none⟩) g2).trans vf; have yk := (hb.cell (p := ⟨w.heap.size + 1 + 1, i + t + 1, none⟩) g1).trans xk; clear xk; clear hb x0 xf v0 vf)
                go_roundw
                case rel =>
                  have hb := HB2.out
                  have b1 := (((HP.out.below hb).set (i := i) (by omega) c).other (b := w.heap.size + 1) (o := i) (by omega) (.int .i64 ((i : Int) + t)))
                  have b2 := (((HL.out.below hb).other (b := w.heap.size + 1 + 1) (o := i) (by omega) (.int .i64 c)).set (i := i) hin ((i : Int) + t))
                  refine ⟨t + 1, by congr 1 <;> omega, by omega, ?_, ?_, b1.congr (fun j _ => (mixF_yes HYES.out j).1), b2.congr (fun j _ => (mixF_yes HYES.out j).2), ?_, ?_⟩
                  · rw [World.cell?_setCell_other _ _ _ _ (addr_ne8 (by omega) _ _), World.cell?_setCell_other _ _ _ _ (addr_ne8 (by omega) _ _)]
                    exact (hb.cell (p := ⟨w.heap.size, 0, none⟩) hzr).trans c0
                  · rw [World.cell?_setCell_other _ _ _ _ (addr_ne8 (by omega) _ _), World.cell?_setCell_other _ _ _ _ (addr_ne8 (by omega) _ _)]
                    exact (hb.cell (p := ⟨w.heap.size, 1, none⟩) hzr).trans c1
                  · exact ((HW.out.trans (hb.mono HW.out.size)).setCell (p := ⟨w.heap.size + 1 + 1, i, none⟩) (by show w.heap.size ≤ w.heap.size + 1 + 1; omega) _).setCell (p := ⟨w.heap.size + 1, i, none⟩) (by show w.heap.size ≤ w.heap.size + 1; omega) _
                  · simpa [World.setCell] using Nat.lt_of_lt_of_le hzr hb.size
                case measure => simp [intOf]; omega
              · have hPn : ¬ P < 0 := by omega
                by_cases hlt2 : c < P
                · have HYES := Lib.hid (HCY.out (.inr hlt2))
                  go_wp2_with (go_at_call 65; refine HCL.out.mono ?_; rintro y w2 ⟨rfl, hb⟩; have HB2 := Lib.hid hb; have y0 := (hb.cell (p := ⟨w.heap.size + 1 + 1, i, none⟩) g1).trans x0; have yf := (hb.frozen (p := ⟨w.heap.size + 1 + 1, i, none⟩) g1).trans xf; have z0 := (hb.cell (p := ⟨w.heap.size + 1, i, none⟩) g2).trans v0; have zf := (hb.frozen (p := ⟨w.heap.size + 1, i, none⟩) g2).trans vf; have yk := (hb.cell (p := ⟨w.heap.size + 1 + 1, i + t + 1, none⟩) g1).trans xk; clear xk; clear hb x0 xf v0 vf)
                  go_roundw
                  case rel =>
                    have hb := HB2.out
                    have b1 := (((HP.out.below hb).set (i := i) (by omega) c).other (b := w.heap.size + 1) (o := i) (by omega) (.int .i64 ((i : Int) + t)))
                    have b2 := (((HL.out.below hb).other (b := w.heap.size + 1 + 1) (o := i) (by omega) (.int .i64 c)).set (i := i) hin ((i : Int) + t))
                    refine ⟨t + 1, by congr 1 <;> omega, by omega, ?_, ?_, b1.congr (fun j _ => (mixF_yes HYES.out j).1), b2.congr (fun j _ => (mixF_yes HYES.out j).2), ?_, ?_⟩
                    · rw [World.cell?_setCell_other _ _ _ _ (addr_ne8 (by omega) _ _), World.cell?_setCell_other _ _ _ _ (addr_ne8 (by omega) _ _)]
                      exact (hb.cell (p := ⟨w.heap.size, 0, none⟩) hzr).trans c0
                    · rw [World.cell?_setCell_other _ _ _ _ (addr_ne8 (by omega) _ _), World.cell?_setCell_other _ _ _ _ (addr_ne8 (by omega) _ _)]
                      exact (hb.cell (p := ⟨w.heap.size, 1, none⟩) hzr).trans c1
                    · exact ((HW.out.trans (hb.mono HW.out.size)).setCell (p := ⟨w.heap.size + 1 + 1, i, none⟩) (by show w.heap.size ≤ w.heap.size + 1 + 1; omega) _).setCell (p := ⟨w.heap.size + 1, i, none⟩) (by show w.heap.size ≤ w.heap.size + 1; omega) _
                    · simpa [World.setCell] using Nat.lt_of_lt_of_le hzr hb.size
                  case measure => simp [intOf]; omega
                · have HNO := Lib.hid (HCN.out (by omega))
                  go_wp2_with (go_at_call 65; refine HCL.out.mono ?_; rintro y w2 ⟨rfl, hb⟩; have HB2 := Lib.hid hb; have y0 := (hb.cell (p := ⟨w.heap.size + 1 + 1, i, none⟩) g1).trans x0; have yf := (hb.frozen (p := ⟨w.heap.size + 1 + 1, i, none⟩) g1).trans xf; have z0 := (hb.cell (p := ⟨w.heap.size + 1, i, none⟩) g2).trans v0; have zf := (hb.frozen (p := ⟨w.heap.size + 1, i, none⟩) g2).trans vf; have yk := (hb.cell (p := ⟨w.heap.size + 1 + 1, i + t + 1, none⟩) g1).trans xk; clear xk; clear hb x0 xf v0 vf)
                  go_roundw
                  case rel =>
                    have hb := HB2.out
                    exact ⟨t + 1, by congr 1 <;> omega, by omega, (hb.cell (p := ⟨w.heap.size, 0, none⟩) hzr).trans c0, (hb.cell (p := ⟨w.heap.size, 1, none⟩) hzr).trans c1, (HP.out.below hb).congr (fun j _ => by rw [mixF_no HNO.out]), (HL.out.below hb).congr (fun j _ => by rw [mixF_no HNO.out]), HW.out.trans (hb.mono HW.out.size), Nat.lt_of_lt_of_le hzr hb.size⟩
                  case measure => simp [intOf]; omega
            · have hck : bp = c := by have := HCK.out; rw [if_neg hmore] at this; omega
              have hml : ¬ (i : Int) + t + 1 < (d.size : Int) := by omega
              clear hfk HCK xk
              subst hck
              rcases hci with rfl | hPr
              · have HYES := Lib.hid (HCY.out (.inl (by omega)))
                go_wp2_with (go_at_call 65; refine HCL.out.mono ?_; rintro y w2 ⟨rfl, hb⟩; have HB2 := Lib.hid hb; have y0 := (hb.cell (p := ⟨w.heap.size + 1 + 1, i, none⟩) g1).trans x0; have yf := (hb.frozen (p := ⟨w.heap.size + 1 + 1, i, none⟩) g1).trans xf; have z0 := (hb.cell (p := ⟨w.heap.size + 1, i, none⟩) g2).trans v0; have zf := (hb.frozen (p := ⟨w.heap.size + 1, i, none⟩) g2).trans vf; clear hb x0 xf v0 vf)
                go_roundw
                case rel =>
                  have hb := HB2.out
                  have b1 := (((HP.out.below hb).set (i := i) (by omega) bp).other (b := w.heap.size + 1) (o := i) (by omega) (.int .i64 ((i : Int) + t)))
                  have b2 := (((HL.out.below hb).other (b := w.heap.size + 1 + 1) (o := i) (by omega) (.int .i64 bp)).set (i := i) hin ((i : Int) + t))
                  refine ⟨t + 1, by congr 1 <;> omega, by omega, ?_, ?_, b1.congr (fun j _ => (mixF_yes HYES.out j).1), b2.congr (fun j _ => (mixF_yes HYES.out j).2), ?_, ?_⟩
                  · rw [World.cell?_setCell_other _ _ _ _ (addr_ne8 (by omega) _ _), World.cell?_setCell_other _ _ _ _ (addr_ne8 (by omega) _ _)]
                    exact (hb.cell (p := ⟨w.heap.size, 0, none⟩) hzr).trans c0
                  · rw [World.cell?_setCell_other _ _ _ _ (addr_ne8 (by omega) _ _), World.cell?_setCell_other _ _ _ _ (addr_ne8 (by omega) _ _)]
                    exact (hb.cell (p := ⟨w.heap.size, 1, none⟩) hzr).trans c1
                  · exact ((HW.out.trans (hb.mono HW.out.size)).setCell (p := ⟨w.heap.size + 1 + 1, i, none⟩) (by show w.heap.size ≤ w.heap.size + 1 + 1; omega) _).setCell (p := ⟨w.heap.size + 1, i, none⟩) (by show w.heap.size ≤ w.heap.size + 1; omega) _
                  · simpa [World.setCell] using Nat.lt_of_lt_of_le hzr hb.size
                case measure => simp [intOf]; omega
              · have hPn : ¬ P < 0 := by omega
                by_cases hlt2 : bp < P
                · have HYES := Lib.hid (HCY.out (.inr hlt2))
                  go_wp2_with (go_at_call 65; refine HCL.out.mono ?_; rintro y w2 ⟨rfl, hb⟩; have HB2 := Lib.hid hb; have y0 := (hb.cell (p := ⟨w.heap.size + 1 + 1, i, none⟩) g1).trans x0; have yf := (hb.frozen (p := ⟨w.heap.size + 1 + 1, i, none⟩) g1).trans xf; have z0 := (hb.cell (p := ⟨w.heap.size + 1, i, none⟩) g2).trans v0; have zf := (hb.frozen (p := ⟨w.heap.size + 1, i, none⟩) g2).trans vf; clear hb x0 xf v0 vf)
                  go_roundw
                  case rel =>
                    have hb := HB2.out
                    have b1 := (((HP.out.below hb).set (i := i) (by omega) bp).other (b := w.heap.size + 1) (o := i) (by omega) (.int .i64 ((i : Int) + t)))
                    have b2 := (((HL.out.below hb).other (b := w.heap.size + 1 + 1) (o := i) (by omega) (.int .i64 bp)).set (i := i) hin ((i : Int) + t))
                    refine ⟨t + 1, by congr 1 <;> omega, by omega, ?_, ?_, b1.congr (fun j _ => (mixF_yes HYES.out j).1), b2.congr (fun j _ => (mixF_yes HYES.out j).2), ?_, ?_⟩
                    · rw [World.cell?_setCell_other _ _ _ _ (addr_ne8 (by omega) _ _), World.cell?_setCell_other _ _ _ _ (addr_ne8 (by omega) _ _)]
                      exact (hb.cell (p := ⟨w.heap.size, 0, none⟩) hzr).trans c0
                    · rw [World.cell?_setCell_other _ _ _ _ (addr_ne8 (by omega) _ _), World.cell?_setCell_other _ _ _ _ (addr_ne8 (by omega) _ _)]
                      exact (hb.cell (p := ⟨w.heap.size, 1, none⟩) hzr).trans c1
                    · exact ((HW.out.trans (hb.mono HW.out.size)).setCell (p := ⟨w.heap.size + 1 + 1, i, none⟩) (by show w.heap.size ≤ w.heap.size + 1 + 1; omega) _).setCell (p := ⟨w.heap.size + 1, i, none⟩) (by show w.heap.size ≤ w.heap.size + 1; omega) _
                    · simpa [World.setCell] using Nat.lt_of_lt_of_le hzr hb.size
                  case measure => simp [intOf]; omega
                · have HNO := Lib.hid (HCN.out (by omega))
                  go_wp2_with (go_at_call 65; refine HCL.out.mono ?_; rintro y w2 ⟨rfl, hb⟩; have HB2 := Lib.hid hb; have y0 := (hb.cell (p := ⟨w.heap.size + 1 + 1, i, none⟩) g1).trans x0; have yf := (hb.frozen (p := ⟨w.heap.size + 1 + 1, i, none⟩) g1).trans xf; have z0 := (hb.cell (p := ⟨w.heap.size + 1, i, none⟩) g2).trans v0; have zf := (hb.frozen (p := ⟨w.heap.size + 1, i, none⟩) g2).trans vf; clear hb x0 xf v0 vf)
                  go_roundw
                  case rel =>
                    have hb := HB2.out
                    exact ⟨t + 1, by congr 1 <;> omega, by omega, (hb.cell (p := ⟨w.heap.size, 0, none⟩) hzr).trans c0, (hb.cell (p := ⟨w.heap.size, 1, none⟩) hzr).trans c1, (HP.out.below hb).congr (fun j _ => by rw [mixF_no HNO.out]), (HL.out.below hb).congr (fun j _ => by rw [mixF_no HNO.out]), HW.out.trans (hb.mono HW.out.size), Nat.lt_of_lt_of_le hzr hb.size⟩
                  case measure => simp [intOf]; omega
          · have hke : t = d.size - i := by omega
            subst hke
            have hkl : ¬ (i : Int) + ((d.size - i : Nat) : Int) < (d.size : Int) := by omega
            go_wp2_with fail
            go_roundw
            case rel =>
              have hmm : mixF d (tabT d m) i (d.size - i) = tabT d (m + 1) := by
                rw [HI.out]; rfl
              rw [hmm] at HP HL
              exact ⟨m + 1, by have := HI2.out; congr 1 <;> omega, by omega, c0, c1, HP.out, HL.out, HW.out, hzr⟩
            case measure => simp [intOf] <;> omega
      · have hme : m = d.size := by omega
        subst hme
        have hneg : ¬ (0 : Int) ≤ (d.size : Int) - 1 - (d.size : Int) := by omega
        go_wp2_with fail
        refine bodyPost_ret (v := .tuple #[.slice (some ⟨w.heap.size + 1 + 1, 0, none⟩) (d.size + 1) (d.size + 1), .slice (some ⟨w.heap.size + 1, 0, none⟩) d.size d.size]) (by simp [results, Tryz.results91, go_sem]) rfl ⟨_, _, rfl, HP.out, HL.out, by omega, by omega, HW.out⟩
end Go.Proofs.YtjpcpiffffobcaaGreatDoor

namespace Go.Proofs.YtjpcpiffffobcaaGreatDoor
open Go.RowKit Go.Shelf Go.Lib Go.Sort

noncomputable def leastN (d : Array CaseD) (rest : Int) : Int := if swB d rest = true then (finT d 0).1 else -1
theorem tail_field0 (z : Int) (v : Value) (W : World) : (Instr.field 100 (.agg #[.int .i64 z, v]) 0).run Tryz.prog W = .ok (.int .i64 z) W := by kernel_rfl
set_option maxRecDepth 100000 in
set_option maxHeartbeats 1000000 in
theorem implLeastP_any (b off cap : Nat) (d : Array CaseD) (rest : Int) (w : World) (hR : RowC w b off d) (hE : ErrAt w) (hcap : d.size ≤ cap) (hmax : cap ≤ maxLen) :
    Calls Tryz.prog 26 #[.agg #[.slice (some ⟨b, off, none⟩) d.size cap, .int .i64 rest]] w fun x w' => x = .returned (.int .i64 (leastN d rest)) ∧ RowKit.Below w.heap.size w w' := by
  have HV := Lib.hid (fun W (hW : RowKit.Below w.heap.size w W) => switchValid_any b off cap d rest W (hR.below hW) (hE.below hW) hcap hmax)
  obtain ⟨wa, hwa⟩ : ∃ wa, wa = w.alloc (.cells #[.slice (some ⟨b, off, none⟩) d.size cap, .int .i64 rest] 32) := ⟨_, rfl⟩
  have hba : RowKit.Below w.heap.size w wa := by rw [hwa]; exact (Below.refl _ _).alloc (Nat.le_refl _) _
  have c0 : wa.cell? ⟨w.heap.size, 0, none⟩ = some (.slice (some ⟨b, off, none⟩) d.size cap) := by rw [hwa]; simp
  have c1 : wa.cell? ⟨w.heap.size, 1, none⟩ = some (.int .i64 rest) := by rw [hwa]; simp
  have hz : w.heap.size < wa.heap.size := by rw [hwa]; simp
  have HWA := Lib.hid hwa
  have HBA := Lib.hid hba
  clear hwa hba
  cases hs : swB d rest with
  | false =>
    have HK := Lib.hid (show leastN d rest = -1 by rw [leastN, if_neg (by rw [hs]; simp)])
    rw [hs] at HV
    clear hs hR hE hcap hmax
    go_enter Tryz.func26, Tryz.ntmps26
    go_wp2_with fail
    rw [← HWA.out]
    go_wp2_with fail
    refine (HV.out _ HBA.out).mono ?_
    rintro y w1 ⟨rfl, hb⟩
    have HB := Lib.hid (HBA.out.trans (hb.mono HBA.out.size))
    clear hb c0 c1
    go_wp2_with fail
    go_ret
    exact ⟨retI HK.out.symm, HB.out⟩
  | true =>
    have HK := Lib.hid (show leastN d rest = (finT d 0).1 by rw [leastN, if_pos hs])
    have HT := Lib.hid (fun W (hW : RowKit.Below w.heap.size w W) => bestTail_any b off cap d rest W (hR.below hW) (hE.below hW) hcap hmax ((swB_iff _ _).1 hs))
    obtain ⟨z, hzz⟩ : ∃ z, z = (finT d 0).1 := ⟨_, rfl⟩
    rw [← hzz] at HK HT
    rw [hs] at HV
    clear hs hR hE hcap hmax hzz
    go_enter Tryz.func26, Tryz.ntmps26
    go_wp2_with fail
    rw [← HWA.out]
    go_wp2_with fail
    refine (HV.out _ HBA.out).mono ?_
    rintro y w1 ⟨rfl, hb⟩
    have HB := Lib.hid (HBA.out.trans (hb.mono HBA.out.size))
    have e0 := (hb.cell (p := ⟨w.heap.size, 0, none⟩) hz).trans c0
    have e1 := (hb.cell (p := ⟨w.heap.size, 1, none⟩) hz).trans c1
    clear hb c0 c1
    go_wp2_with fail
    refine (HT.out _ HB.out).mono ?_
    rintro y w2 ⟨v, rfl, -, hb⟩
    have HB2 := Lib.hid (HB.out.trans (hb.mono HB.out.size))
    have hf0 := fun W => tail_field0 z v W
    clear hb e0 e1
    go_wp2_with fail
    go_ret
    exact ⟨retI HK.out.symm, HB2.out⟩
end Go.Proofs.YtjpcpiffffobcaaGreatDoor
