
/- TargetOf: the program's and the model's. -/
import Derived.Test.YtkiaafpggjojiaaDoorKsCase
namespace Go.Proofs.YtkiaafpggjojiaaDoor
open Go.RowKit Go.Shelf Go.Lib Go.Sort

def zS : ByteArray := ⟨#[122]⟩
/-- The target of a key of a valid switch. -/
def goesN (d : Array CaseD) (key : Int) : ByteArray := if 0 ≤ atN d key then d[(atN d key).toNat]!.target else zS
noncomputable def okN (d : Array CaseD) (rest key : Int) : Bool := swB d rest && keyB key
noncomputable def targetN (d : Array CaseD) (rest key : Int) : ByteArray := if okN d rest key = true then goesN d key else ⟨#[]⟩
theorem goesN_hit {d : Array CaseD} {key : Int} {k : Nat} (h : atN d key = k) : goesN d key = d[k]!.target := by
  unfold goesN
  rw [h, if_pos (by omega), Int.toNat_natCast]
theorem goesN_miss {d : Array CaseD} {key : Int} (h : atN d key = -1) : goesN d key = zS := by
  unfold goesN
  rw [h, if_neg (by omega)]
theorem ret2 {a c : ByteArray} {b e : Bool} (h : a = c) (h2 : b = e) : Ending.returned (.tuple #[.string a, .bool b]) = .returned (.tuple #[.string c, .bool e]) := by rw [h, h2]
theorem retS {a c : ByteArray} (h : a = c) : Ending.returned (.string a) = .returned (.string c) := by rw [h]

set_option maxRecDepth 100000 in
set_option maxHeartbeats 400000 in
theorem text_any (w : World) : Calls Tryd.prog 53 #[.int .u8 122] w fun x w' => x = .returned (.string zS) ∧ RowKit.Below w.heap.size w w' := by
  have hconv : Sem.run Tryd.prog (convert 111 9 (.slice (some ⟨w.heap.size, 0, none⟩) 1 1)) (w.alloc (.cells #[.int .u8 122] 5)) = .ok (.string zS) (w.alloc (.cells #[.int .u8 122] 5)) := by
    rw [run_convert_bytes_string _ _ _ _ _ _ _ Tryd.underlying111 Tryd.underlying5 Tryd.underlying9, run_bytesToString _ _ _ _ [122] (by go_simp)]
    rfl
  go_enter Tryd.func53, Tryd.ntmps53
  go_wp2
  go_ret
  exact ⟨rfl, (Below.refl _ _).alloc (Nat.le_refl _) _⟩

set_option maxRecDepth 100000 in
set_option maxHeartbeats 1000000 in
theorem l1Goes_any (b off cap : Nat) (d : Array CaseD) (rest key : Int) (w : World) (hR : RowC w b off d) (hn : d.size ≤ 8) :
    Calls Tryd.prog 77 #[.agg #[.slice (some ⟨b, off, none⟩) d.size cap, .int .i64 rest], .int .i64 key] w fun x w' => x = .returned (.string (goesN d key)) ∧ RowKit.Below w.heap.size w w' := by
  have ha := fun W (hW : RowKit.Below w.heap.size w W) => l1At_any b off cap d rest key W (hR.below hW) hn
  have HAT := Lib.hid ha
  have HR := Lib.hid hR
  have h8 : (d.size : Int) ≤ 8 := by omega
  clear ha hR
  obtain ⟨wa, hwa⟩ : ∃ wa, wa = w.alloc (.cells #[.slice (some ⟨b, off, none⟩) d.size cap, .int .i64 rest] 34) := ⟨_, rfl⟩
  have c0 : wa.cell? ⟨w.heap.size, 0, none⟩ = some (.slice (some ⟨b, off, none⟩) d.size cap) := by rw [hwa]; simp
  have c1 : wa.cell? ⟨w.heap.size, 1, none⟩ = some (.int .i64 rest) := by rw [hwa]; simp
  have hz : w.heap.size < wa.heap.size := by rw [hwa]; simp
  have hba : RowKit.Below w.heap.size w wa := by rw [hwa]; exact (Below.refl _ _).alloc (Nat.le_refl _) _
  have HA := Lib.hid hba
  have C0 := Lib.hid c0
  have C1 := Lib.hid c1
  have HWA := Lib.hid hwa
  clear hba c0 c1 hwa
  go_enter Tryd.func77, Tryd.ntmps77
  go_wp2_with fail
  rw [← HWA.out]
  refine (HAT.out _ HA.out).mono ?_
  rintro x w1 ⟨rfl, hb⟩
  have HB := Lib.hid hb
  have hz1 := hb.size
  have HWB := Lib.hid (HA.out.trans (HB.out.mono (by omega)))
  have a0 := (hb.cell (p := ⟨w.heap.size, 0, none⟩) hz).trans C0.out
  clear hb
  rcases atN_cases d key with ⟨k, hk, hat, _, _⟩ | ⟨hat, _⟩
  · have x2 := (HR.out.below HWB.out).target k hk
    have HG := Lib.hid (goesN_hit hat)
    obtain ⟨t, ht⟩ : ∃ t, t = d[k]!.target := ⟨_, rfl⟩
    rw [← ht] at x2
    have HT := Lib.hid ht
    rw [hat]
    clear hat ht
    go_wp2
    go_ret
    exact ⟨retS (by rw [HG.out, HT.out]), HWB.out⟩
  · have HG := Lib.hid (goesN_miss hat)
    rw [hat]
    clear hat
    go_wp2
    go_ret
    exact ⟨retS HG.out.symm, HWB.out⟩

end Go.Proofs.YtkiaafpggjojiaaDoor
