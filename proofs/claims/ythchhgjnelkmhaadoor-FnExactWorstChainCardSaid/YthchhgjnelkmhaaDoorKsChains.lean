/- The iterator over all chains, walked under whatever its loop makes of them. -/
import Derived.Test.YthchhgjnelkmhaaDoorKsAdv
import Derived.Test.YthchhgjnelkmhaaDoorKsRank
import Derived.Test.YthchhgjnelkmhaaDoorKsBestS
namespace Go.Proofs.YthchhgjnelkmhaaDoor
open Go.RowKit Go.Shelf Go.Lib Go.Sort

attribute [local go_sem] Oper.semAt_some

set_option maxHeartbeats 400000 in
theorem chainsOf_any (c : Int) (w : World) :
    Calls Tryd.prog 59 #[.int .i64 c] w fun x w' => x = .returned (.func (.func 77) #[] #[.pointer (some ⟨w.heap.size, 0, none⟩)]) ∧ w' = w.alloc (.cells #[.int .i64 c] 3) := by
  go_enter Tryd.func59, Tryd.ntmps59
  go_wp2
  go_ret
  exact ⟨rfl, rfl⟩

set_option maxRecDepth 100000 in
set_option maxHeartbeats 2000000 in
theorem chains_walk (n Bc l m : Nat) (hn : 1 ≤ n) (hm : m ≤ 8) (W : World) (J Jd : Array Int → World → Prop) (Post : World → Prop)
    (h0 : ∀ W', RowKit.Below W.heap.size W W' → J (upTo m) W')
    (hY : ∀ c W', OrdOK m c → J c W' → BoxN W' W.heap.size c → YieldAt Fence.wide (n - 1) Tryd.prog l #[.slice (some ⟨W.heap.size, 0, none⟩) m m] W' fun e W'' => e = .returned (.bool true) ∧ Jd c W'' ∧ BoxN W'' W.heap.size c)
    (hN : ∀ c r W' W'', OrdOK m c → Jd c W' → NextOf m c r → W'.grownBy W'' (some W.heap.size) → J r W'')
    (hE : ∀ c W' W'', OrdOK m c → Jd c W' → (∀ i j, i < j → j < m → c[j]! < c[i]!) → W'.grownBy W'' (some W.heap.size) → Post W'')
    (hc : W.cell? ⟨Bc, 0, none⟩ = some (.int .i64 m)) :
    CallsIn Fence.wide n Tryd.prog 77 #[.func (.yield l) #[] #[], .pointer (some ⟨Bc, 0, none⟩)] W fun e W' => (∃ v, e = .returned v) ∧ Post W' := by
  have H0 := Lib.hid h0
  have HY := Lib.hid hY
  have HN := Lib.hid hN
  have HE := Lib.hid hE
  clear h0 hY hN hE
  have hm' : (m : Int) ≤ 8 := by omega
  refine callsIn_of_wp Tryd.func77 rfl trivial ?_ rfl
  simp only [Tryd.ntmps77, List.size_toArray, List.length_cons, List.length_nil, Nat.reduceAdd, Nat.reduceSub, Array.replicate_succ, Array.replicate_zero, List.push_toArray, List.append_toArray, List.nil_append, List.cons_append]
  obtain ⟨g, hg⟩ : ∃ g, g = W.heap.size := ⟨_, rfl⟩
  have hfb := firstBox_any m W hm
  rw [← hg] at H0 HY HN HE hfb
  have HFB := Lib.hid hfb
  have HG0 := Lib.hid hg
  clear hg hfb
  gi_wp2_with fail
  refine ⟨trivial, ?_⟩
  refine (callsIn_wide.2 HFB.out).mono ?_
  rintro x W2 ⟨rfl, hbx, hb2⟩
  have HBX := Lib.hid hbx
  have HJ2 := Lib.hid (H0.out W2 hb2)
  clear hbx hb2
  gi_wp2_with fail
  gi_loopw [12] (fun _ wr => ∃ c : Array Int, Hid (OrdOK m c) ∧ Hid (J c wr) ∧ Hid (BoxN wr g c)) (fun _ wr => leftBox m g wr)
  case atStart => exact ⟨upTo m, upTo_ord m, HJ2.out, HBX.out⟩
  case round =>
    obtain ⟨c, HC, HJ, HB⟩ := hrel
    obtain ⟨fn, tmps, assign, body, hy, hR⟩ := HY.out c wr HC.out HJ.out HB.out
    have HR := Lib.hid hR
    clear hR
    gi_wp2_with fail
    refine HR.out.mono ?_
    rintro e W3 ⟨rfl, hd, hb3⟩
    have HD := Lib.hid hd
    have hcs := HC.out.1
    have hadv := advance_any g c W3 hb3 (by rw [hcs]; exact HC.out) (by omega)
    unfold Advanced at hadv
    rw [hcs] at hadv
    have HADV := Lib.hid hadv
    clear hy HR hd hb3 hadv hcs
    gi_wp2_with fail
    refine ⟨trivial, ?_⟩
    refine (callsIn_wide.2 HADV.out).mono ?_
    rintro x W4 ⟨ok, rfl, hg4, ha⟩
    cases ok with
    | false =>
      rw [if_neg (by simp)] at ha
      have HP := Lib.hid (HE.out c W3 W4 HC.out HD.out ha.2 hg4)
      clear ha hg4
      gi_wp2
      go_end0
      exact ⟨⟨_, rfl⟩, HP.out⟩
    | true =>
      rw [if_pos rfl] at ha
      obtain ⟨r, hbr, hnx⟩ := ha
      have HBR := Lib.hid hbr
      have HNX := Lib.hid hnx
      have HJ4 := Lib.hid (HN.out c r W3 W4 HC.out HD.out hnx hg4)
      have HLT := Lib.hid (show leftBox m g W4 < leftBox m g wr by
        rw [leftBox_box hbr, leftBox_box HB.out]
        exact left_next HC.out hm hnx)
      clear hbr hnx hg4
      gi_wp2
      go_roundw
      case rel => exact ⟨r, HNX.out.ord, HJ4.out, HBR.out⟩
      case measure => exact HLT.out
end Go.Proofs.YthchhgjnelkmhaaDoor
