
/- EvenTree of the model. -/
import Derived.Test.YtndnbeijmhcepaaDoorKsTreeV
namespace Go.Proofs.YtndnbeijmhcepaaDoor
open Go.RowKit Go.Shelf

/-- A function of the model that makes a tree of segments. -/
def MakeFn (P : List CaseD → Nat) (F : FuncId) : Prop := ∀ (f : Nat) (l : List CaseD), 0 < l.length → l.length ≤ f → l.length ≤ 17 → (∀ c ∈ l, okB c = true) → ∀ (b off cap : Nat) (w : World), SegsAt w b off l → l.length ≤ cap → cap ≤ maxLen →
    Calls Tryd.prog F #[.slice (some ⟨b, off, none⟩) l.length cap] w fun x w' => (∃ (tg : ByteArray) (k : Int) (sd : Value), x = .returned (.agg #[.string tg, .int .i64 k, sd]) ∧ NodeIs w.heap.size w' (partT P f l) tg k sd) ∧ Below w.heap.size w w'

set_option maxRecDepth 100000 in
set_option maxHeartbeats 1000000 in
theorem specEven_any (b off cap : Nat) (d : Array CaseD) (rest : Int) (w : World) (hR : RowC w b off d) (hcap : d.size ≤ cap) (hmax : cap ≤ maxLen) :
    Calls Tryd.prog 14 #[.agg #[.slice (some ⟨b, off, none⟩) d.size cap, .int .i64 rest]] w fun x w' => x = .returned (.tuple #[.string (partS midP d rest), .bool (swB d rest)]) ∧ RowKit.Below w.heap.size w w' := by
  have hMk : MakeFn midP 35 := even_any
  have hP := midP_ok
  obtain ⟨P, hPe⟩ : ∃ P, P = midP := ⟨_, rfl⟩
  rw [← hPe] at hMk hP ⊢
  clear hPe
  have hv := fun W (hW : RowKit.Below w.heap.size w W) => specValid_any b off cap d rest W (hR.below hW) hcap hmax
  have hk := fun W (hW : RowKit.Below w.heap.size w W) (ho : SwOK d rest) => l2Segments_any b off cap d rest W (hR.below hW) ho
  have HK := Lib.hid hk
  have HMK := Lib.hid hMk
  obtain ⟨wa, hwa⟩ : ∃ wa, wa = w.alloc (.cells #[.slice (some ⟨b, off, none⟩) d.size cap, .int .i64 rest] 35) := ⟨_, rfl⟩
  have c0 : wa.cell? ⟨w.heap.size, 0, none⟩ = some (.slice (some ⟨b, off, none⟩) d.size cap) := by rw [hwa]; simp
  have c1 : wa.cell? ⟨w.heap.size, 1, none⟩ = some (.int .i64 rest) := by rw [hwa]; simp
  have hz : w.heap.size < wa.heap.size := by rw [hwa]; simp
  have hba : RowKit.Below w.heap.size w wa := by rw [hwa]; exact (Below.refl _ _).alloc (Nat.le_refl _) _
  have HA := Lib.hid hba
  have C0 := Lib.hid c0
  have C1 := Lib.hid c1
  have HWA := Lib.hid hwa
  clear hba c0 c1 hwa hR hk hMk
  cases hs : swB d rest
  all_goals
    simp only [hs] at hv
    have HV := Lib.hid hv
    have HS := Lib.hid hs
    clear hv hs
    go_enter Tryd.func14, Tryd.ntmps14
    go_wp2_with fail
    rw [← HWA.out]
    refine (HV.out _ HA.out).mono ?_
    rintro x w1 ⟨rfl, hb⟩
    have HB := Lib.hid hb
    have hz1 := hb.size
    have a0 := (hb.cell (p := ⟨w.heap.size, 0, none⟩) hz).trans C0.out
    have a1 := (hb.cell (p := ⟨w.heap.size, 1, none⟩) hz).trans C1.out
    clear hb
    go_wp2_with fail
  · go_ret2
    exact ⟨ret2s (by rw [partS, if_neg (by rw [HS.out]; exact Bool.false_ne_true)]) rfl, HA.out.trans (HB.out.mono (by omega))⟩
  · have HWB := Lib.hid (HA.out.trans (HB.out.mono (by omega)))
    have hok := (swB_iff _ _).1 HS.out
    have hpos := segs_pos hok
    have h17 := segs_length hok
    have hsl := segs_segL hok
    have hgood := partT_good hP 17 true (segs d rest) hsl hpos
    have hcnt := partT_count hP 17 (segs d rest) hpos h17
    have htl := text_count hgood
    have HX := Lib.hid (fun bb ww tg k sd h => specText_any (partT P 17 (segs d rest)) hgood (by omega) bb ww tg k sd h)
    have HP := Lib.hid (show partS P d rest = textT (partT P 17 (segs d rest)) by rw [partS, if_pos HS.out])
    have HOK := Lib.hid (segs_ok hok)
    refine (HK.out _ HWB.out hok).mono ?_
    rintro x w3 ⟨v, rfl, ho, _, hb3⟩
    obtain ⟨g, cp, rfl, hrow, hc, hm⟩ := segs_row ho hpos
    have HB3 := Lib.hid (HWB.out.trans (hb3.mono HWB.out.size))
    have HT := Lib.hid (HMK.out 17 (segs d rest) hpos h17 h17 HOK.out g 0 cp w3 hrow hc hm)
    obtain ⟨t, ht⟩ : ∃ t, t = partT P 17 (segs d rest) := ⟨_, rfl⟩
    rw [← ht] at HT HX HP
    obtain ⟨n, hn⟩ : ∃ n, n = (segs d rest).length := ⟨_, rfl⟩
    rw [← hn] at HT hc h17 ⊢
    clear hb3 ho hok hpos hsl hrow hgood hcnt htl ht hn
    go_wp2_with fail
    refine HT.out.mono ?_
    rintro x w4 ⟨⟨tg, k, sd, rfl, nd⟩, hb4⟩
    obtain ⟨q, m, cc, rfl⟩ := nd.slice
    have HB4 := Lib.hid (HB3.out.trans (hb4.mono HB3.out.size))
    have HC := Lib.hid (HX.out _ _ _ _ _ nd)
    clear hb4 nd
    go_wp2_with fail
    refine HC.out.mono ?_
    rintro x w5 ⟨rfl, hb5⟩
    have HB5 := Lib.hid (HB4.out.trans (hb5.mono HB4.out.size))
    clear hb5
    go_wp2
    go_ret2
    exact ⟨ret2s HP.out.symm rfl, HB5.out⟩
end Go.Proofs.YtndnbeijmhcepaaDoor
