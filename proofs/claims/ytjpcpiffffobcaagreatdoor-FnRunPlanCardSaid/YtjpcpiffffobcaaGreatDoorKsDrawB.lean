
/- The source of draws: l13Open, pick, of, num. · The source of draws as a whole: what a draw keeps; num, of, l13Open. -/
import Derived.Test.YtjpcpiffffobcaaGreatDoorKsTgtA
import Derived.Deep.RegionHeld3
import Derived.Deep.AppendLies
import Derived.Lib.BufferOwn
namespace Go.Proofs.YtjpcpiffffobcaaGreatDoor
open Go.RowKit Go.Shelf Go.Lib Go.Sort

/-- A readable row of bytes in a block below B. -/
def BytesAt (B : Nat) (w : World) (v : Value) (n : Nat) : Prop := (n = 0 ∧ ∃ a c, v = .slice a 0 c) ∨ ∃ b off cap, v = .slice (some ⟨b, off, none⟩) n cap ∧ n ≤ cap ∧ b < B ∧ ∀ j, j < n → ∃ x : Nat, x < 256 ∧ w.cell? ⟨b, off + j, none⟩ = some (.int .u8 x)

theorem wrap_small (z : Int) (h0 : 0 ≤ z) (h1 : z ≤ 1000000000) : IntKind.i64.wrap z = z := by rw [IntKind.wrap]; simp [IntKind.signed, IntKind.bits]; omega
theorem xor_small (a b : Nat) (ha : a ≤ 10000000) (hb : b ≤ 10000000) : bits .xor .i64 (a : Int) (b : Int) = ((a ^^^ b : Nat) : Int) := by
  have hx : a ^^^ b < 2 ^ 24 := Nat.xor_lt_two_pow (by omega) (by omega)
  unfold bits
  have e : (BitVec.ofInt IntKind.i64.bits (a : Int) ^^^ BitVec.ofInt IntKind.i64.bits (b : Int)).toNat = a ^^^ b := by
    rw [BitVec.toNat_xor]
    simp only [BitVec.ofInt_natCast, BitVec.toNat_ofNat, IntKind.bits]
    rw [Nat.mod_eq_of_lt (by omega), Nat.mod_eq_of_lt (by omega)]
  show IntKind.i64.wrap ((BitVec.ofInt IntKind.i64.bits (a : Int) ^^^ BitVec.ofInt IntKind.i64.bits (b : Int)).toNat : Int) = _
  rw [e]
  exact wrap_small _ (by omega) (by omega)

set_option maxRecDepth 100000 in
set_option maxHeartbeats 1000000 in
theorem pick_any (g n : Nat) (v : Value) (p m : Nat) (w : World) (hv : w.cell? ⟨g, 0, none⟩ = some v) (hp : w.cell? ⟨g, 1, none⟩ = some (.int .i64 p)) (hf : w.frozen? ⟨g, 1, none⟩ = false) (_ : g < w.heap.size) (hb : BytesAt g w v m) (hm : m ≤ 2000) (hpp : p ≤ 100000) (hn : n ≤ 100000) :
    Calls Tryz.prog 52 #[.pointer (some ⟨g, 0, none⟩), .int .i64 n] w fun x w' => ∃ q : Nat, x = .returned (.int .i64 q) ∧ (0 < n → q < n) ∧ (w' = w.setCell ⟨g, 1, none⟩ (.int .i64 (p + 1)) ∨ w' = (w.setCell ⟨g, 1, none⟩ (.int .i64 (p + 1))).drew) := by
  by_cases hn0 : 0 < n
  · rcases hb with ⟨rfl, av0, cv0, rfl⟩ | ⟨b, off, cap, rfl, hc, hbl, hx⟩
    · go_enter Tryz.func52, Tryz.ntmps52
      go_wp2_with fail
      go_ret
      exact ⟨0, retI (by omega), fun h => h, .inl rfl⟩
    · have hgb : b ≠ g := by omega
      have hx2 : ∀ j, j < m → ∃ x : Nat, x < 256 ∧ (w.setCell ⟨g, 1, none⟩ (.int .i64 (p + 1))).cell? ⟨b, off + j, none⟩ = some (.int .u8 x) := by
        intro j hj
        obtain ⟨x, h1, h2⟩ := hx j hj
        exact ⟨x, h1, (World.cell?_setCell_other _ _ _ _ (by intro h; simp only [Addr.mk.injEq] at h; omega)).trans h2⟩
      clear hx
      by_cases hm0 : m = 0
      · subst hm0
        clear hx2
        go_enter Tryz.func52, Tryz.ntmps52
        go_wp2_with fail
        go_ret
        exact ⟨0, retI (by omega), fun h => h, .inl rfl⟩
      by_cases hpm : p < m
      · obtain ⟨x, h1, h2⟩ := hx2 p hpm
        clear hx2
        have e1 : decide ((n : Int) < 1) = false := decide_eq_false (by omega)
        have e2 : ((m : Int) == 0) = false := by simp; omega
        go_enter Tryz.func52, Tryz.ntmps52
        go_wp2_with fail
        go_ret
        exact ⟨x % n, retI (by simp), fun h => Nat.mod_lt _ h, .inl rfl⟩
      · obtain ⟨k1, hk1⟩ : ∃ k1, k1 = p % m := ⟨_, rfl⟩
        obtain ⟨k2, hk2⟩ : ∃ k2, k2 = (p * 7 + 3) % m := ⟨_, rfl⟩
        have k1m : k1 < m := by rw [hk1]; exact Nat.mod_lt _ (by omega)
        have k2m : k2 < m := by rw [hk2]; exact Nat.mod_lt _ (by omega)
        have i1 : (p : Int).tmod (m : Int) = (k1 : Int) := by rw [hk1, Int.tmod_eq_emod_of_nonneg (by omega)]; simp
        have i2 : ((p : Int) * 7 + 3).tmod (m : Int) = (k2 : Int) := by rw [hk2, Int.tmod_eq_emod_of_nonneg (by omega)]; simp
        have i3 : (p : Int).tdiv (m : Int) = ((p / m : Nat) : Int) := by rw [Int.tdiv_eq_ediv_of_nonneg (by omega)]; simp
        obtain ⟨k3, hk3⟩ : ∃ k3, k3 = p / m := ⟨_, rfl⟩
        rw [← hk3] at i3
        have k3m : k3 ≤ 100000 := by rw [hk3]; exact Nat.le_trans (Nat.div_le_self _ _) hpp
        clear hk1 hk2 hk3
        obtain ⟨x, h1, h2⟩ := hx2 k1 k1m
        obtain ⟨y, h3, h4⟩ := hx2 k2 k2m
        clear hx2
        have j0 : (0 : Int) ≤ (k1 : Int) := by omega
        have j1 : (k1 : Int) < (m : Int) := by omega
        have j2 : (0 : Int) ≤ (k2 : Int) := by omega
        have j3 : (k2 : Int) < (m : Int) := by omega
        have j8 : (m : Int) ≠ 0 := by omega
        have r1 : IntKind.i64.wrap ((x : Int) * 131) = (x : Int) * 131 := wrap_small _ (by omega) (by omega)
        have r2 : IntKind.i64.wrap ((y : Int) * 1117) = (y : Int) * 1117 := wrap_small _ (by omega) (by omega)
        have r3 : IntKind.i64.wrap ((x : Int) * 131 + (y : Int) * 1117) = (x : Int) * 131 + (y : Int) * 1117 := wrap_small _ (by omega) (by omega)
        have r4 : IntKind.i64.wrap ((p : Int) * 29) = (p : Int) * 29 := wrap_small _ (by omega) (by omega)
        have r5 : IntKind.i64.wrap ((x : Int) * 131 + (y : Int) * 1117 + (p : Int) * 29) = (x : Int) * 131 + (y : Int) * 1117 + (p : Int) * 29 := wrap_small _ (by omega) (by omega)
        have r6 : IntKind.i64.wrap ((k3 : Int) * 53) = (k3 : Int) * 53 := wrap_small _ (by omega) (by omega)
        obtain ⟨N, hN⟩ : ∃ N : Nat, N = x * 131 + y * 1117 + p * 29 + k3 * 53 := ⟨_, rfl⟩
        have r7 : IntKind.i64.wrap ((x : Int) * 131 + (y : Int) * 1117 + (p : Int) * 29 + (k3 : Int) * 53) = (N : Int) := by rw [wrap_small _ (by omega) (by omega), hN]; simp
        have r8 : IntKind.i64.wrap ((p : Int) * 7) = (p : Int) * 7 := wrap_small _ (by omega) (by omega)
        have r9 : IntKind.i64.wrap ((p : Int) * 7 + 3) = (p : Int) * 7 + 3 := wrap_small _ (by omega) (by omega)
        have hNb : N ≤ 10000000 := by omega
        obtain ⟨M, hM⟩ : ∃ M : Nat, M = N / 64 := ⟨_, rfl⟩
        have r10 : (N : Int).tdiv 64 = (M : Int) := by rw [Int.tdiv_eq_ediv_of_nonneg (by omega), hM]; simp
        have r11 : IntKind.i64.wrap (M : Int) = (M : Int) := wrap_small _ (by omega) (by omega)
        have r12 : (N : Int) / 64 = (M : Int) := by omega
        obtain ⟨Q, hQ⟩ : ∃ Q : Nat, Q = N ^^^ M := ⟨_, rfl⟩
        have r13 : bits .xor .i64 (N : Int) (M : Int) = (Q : Int) := by rw [hQ]; exact xor_small _ _ hNb (by omega)
        have r14 : bits .xor .i64 ((x : Int) * 131 + (y : Int) * 1117 + (p : Int) * 29 + (k3 : Int) * 53) (((x : Int) * 131 + (y : Int) * 1117 + (p : Int) * 29 + (k3 : Int) * 53) / 64) = (Q : Int) := by
          rw [show ((x : Int) * 131 + (y : Int) * 1117 + (p : Int) * 29 + (k3 : Int) * 53) = (N : Int) by rw [hN]; simp, r12, r13]
        clear hN hQ hM
        have e1 : decide ((n : Int) < 1) = false := decide_eq_false (by omega)
        have e2 : ((m : Int) == 0) = false := by simp; omega
        go_enter Tryz.func52, Tryz.ntmps52
        go_wp2_with fail
        obtain ⟨w2, hw2⟩ : ∃ w2, w2 = w.setCell ⟨g, 1, none⟩ (.int .i64 (p + 1)) := ⟨_, rfl⟩
        have hv2 : w2.cell? ⟨g, 0, none⟩ = some (.slice (some ⟨b, off, none⟩) m cap) := by rw [hw2]; exact (World.cell?_setCell_other _ _ _ _ (by intro h; simp only [Addr.mk.injEq] at h; omega)).trans hv
        rw [← hw2] at h2 h4 ⊢
        have HW2 := Lib.hid hw2
        clear hw2 hv hp hf
        go_region_held3 (fun w' => w'.cell? ⟨g, 0, none⟩ = some (.slice (some ⟨b, off, none⟩) m cap) ∧ w'.cell? ⟨b, off + k1, none⟩ = some (.int .u8 x) ∧ w'.cell? ⟨b, off + k2, none⟩ = some (.int .u8 y)) (go_keep) (fail)
        all_goals go_wp2_with fail
        go_ret
        exact ⟨Q % n, retI (by simp), fun h => Nat.mod_lt _ h, .inr (by rw [HW2.out])⟩
  · have hn1 : n = 0 := by omega
    subst hn1
    go_enter Tryz.func52, Tryz.ntmps52
    go_wp2_with fail
    go_ret
    exact ⟨0, retI (by omega), fun h => h, .inl rfl⟩
end Go.Proofs.YtjpcpiffffobcaaGreatDoor

namespace Go.Proofs.YtjpcpiffffobcaaGreatDoor
open Go.RowKit Go.Shelf Go.Lib Go.Sort

/-- The source of draws lies in block g, has drawn at most p times, and reads bytes below g. -/
def RdAt (w : World) (g p : Nat) : Prop := g < w.heap.size ∧ w.frozen? ⟨g, 1, none⟩ = false ∧ ∃ v m q, m ≤ 2000 ∧ q ≤ p ∧ w.cell? ⟨g, 0, none⟩ = some v ∧ w.cell? ⟨g, 1, none⟩ = some (.int .i64 (q : Nat)) ∧ BytesAt g w v m

theorem getElem!_mem_ofB {ns : List ByteArray} {q : Nat} (h : q < ns.length) : ns[q]! ∈ ns := by simp [h]
theorem getElem!_mem_of {ns : List Int} {q : Nat} (h : q < ns.length) : ns[q]! ∈ ns := by simp [h]
theorem frozen_setCell (w : World) (a b : Addr) (v : Value) : (w.setCell a v).frozen? b = w.frozen? b := by simp
theorem RdAt.drew {w : World} {g p : Nat} (h : RdAt w g p) : RdAt w.drew g p := h

theorem RdAt.below {w w' : World} {g p B : Nat} (h : RdAt w g p) (hb : RowKit.Below B w w') (hB : w.heap.size ≤ B) : RdAt w' g p := by
  obtain ⟨hgl, hf, v, m, q, hm, hq, hv, hp2, hb2⟩ := h
  have hs := hb.size
  refine ⟨by omega, ?_, v, m, q, hm, hq, (hb.cell (p := ⟨g, 0, none⟩) (by show g < _; omega)).trans hv, (hb.cell (p := ⟨g, 1, none⟩) (by show g < _; omega)).trans hp2, ?_⟩
  · rw [← hf]; exact hb.frozen (p := ⟨g, 1, none⟩) (by show g < _; omega)
  · rcases hb2 with h1 | ⟨b, off, cap, h1, h2, h3, h4⟩
    · exact .inl h1
    · refine .inr ⟨b, off, cap, h1, h2, h3, fun j hj => ?_⟩
      obtain ⟨y, h5, h6⟩ := h4 j hj
      exact ⟨y, h5, (hb.cell (p := ⟨b, off + j, none⟩) (by show b < _; omega)).trans h6⟩
theorem RdAt.alloc {w : World} {g p : Nat} (h : RdAt w g p) (o : Obj) : RdAt (w.alloc o) g p := h.below ((Below.refl _ _).alloc (Nat.le_refl _) o) (Nat.le_refl _)
theorem pickR_any (g n p : Nat) (w : World) (h : RdAt w g p) (hp : p ≤ 100000) (hn : n ≤ 100000) :
    Calls Tryz.prog 52 #[.pointer (some ⟨g, 0, none⟩), .int .i64 n] w fun x w' => ∃ q : Nat, x = .returned (.int .i64 q) ∧ (0 < n → q < n) ∧ RdAt w' g (p + 1) ∧ w.grownBy w' (some g) := by
  obtain ⟨hgl, hf, v, m, q, hm, hq, hv, hp2, hb⟩ := h
  refine (pick_any g n v q m w hv hp2 hf hgl hb hm (by omega) hn).mono ?_
  rintro x w' ⟨r, rfl, hr, hw⟩
  have hR : RdAt (w.setCell ⟨g, 1, none⟩ (.int .i64 (q + 1))) g (p + 1) := by
    refine ⟨by simpa using hgl, by rw [frozen_setCell]; exact hf, v, m, q + 1, hm, by omega, (World.cell?_setCell_other _ _ _ _ (by intro h; simp only [Addr.mk.injEq] at h; omega)).trans hv, by rw [World.cell?_setCell_same _ _ _ hp2]; simp, ?_⟩
    rcases hb with h1 | ⟨b, off, cap, h1, h2, h3, h4⟩
    · exact .inl h1
    · refine .inr ⟨b, off, cap, h1, h2, h3, fun j hj => ?_⟩
      obtain ⟨y, h5, h6⟩ := h4 j hj
      exact ⟨y, h5, (World.cell?_setCell_other _ _ _ _ (by intro h; simp only [Addr.mk.injEq] at h; omega)).trans h6⟩
  have hG : w.grownBy (w.setCell ⟨g, 1, none⟩ (.int .i64 (q + 1))) (some g) := ⟨rfl, rfl, rfl, by simp [World.setCell], fun k _ hk => Below.heap_setCell _ _ _ _ (fun e => hk (by simp [e]))⟩
  rcases hw with rfl | rfl
  · exact ⟨r, rfl, hr, hR, hG⟩
  · exact ⟨r, rfl, hr, hR.drew, ⟨hG.os, hG.tape, hG.output, hG.size, hG.block⟩⟩

set_option maxRecDepth 100000 in
set_option maxHeartbeats 1000000 in
theorem num_any (g p lb cap : Nat) (ns : List Int) (w : World) (h : RdAt w g p) (hp : p ≤ 100000) (hlb : lb ≠ g) (hlw : lb < w.heap.size) (hl : ∀ j : Nat, j < ns.length → w.cell? ⟨lb, j, none⟩ = some (.int .i64 (ns[j]!))) (h0 : 0 < ns.length) (hn : ns.length ≤ 1000) :
    Calls Tryz.prog 51 #[.pointer (some ⟨g, 0, none⟩), .slice (some ⟨lb, 0, none⟩) ns.length cap] w fun x w' => ∃ z : Int, z ∈ ns ∧ x = .returned (.int .i64 z) ∧ RdAt w' g (p + 1) ∧ w.grownBy w' (some g) := by
  have hk := pickR_any g ns.length p w h hp (by omega)
  have HK := Lib.hid hk
  have HL := Lib.hid hl
  clear hk h hl
  go_enter Tryz.func51, Tryz.ntmps51
  go_wp2_with fail
  refine HK.out.mono ?_
  rintro x w2 ⟨q, rfl, hq, hR, hG⟩
  have hq2 := hq h0
  have hl2 := (hG.cell_far _ (by show lb < _; exact hlw) (by intro e; cases e; exact hlb rfl)).trans (HL.out q hq2)
  have HR := Lib.hid hR
  have HG := Lib.hid hG
  have hmem := getElem!_mem_of hq2
  obtain ⟨z, hz⟩ : ∃ z, z = ns[q]! := ⟨_, rfl⟩
  rw [← hz] at hl2 hmem
  have q0 : (0 : Int) ≤ (q : Int) := by omega
  have q1 : (q : Int) < (ns.length : Int) := by omega
  clear hR hG hq HK HL hz
  go_wp2_with fail
  go_ret
  exact ⟨z, hmem, rfl, HR.out, HG.out⟩

set_option maxRecDepth 100000 in
set_option maxHeartbeats 1000000 in
theorem of_any (g p lb cap : Nat) (ns : List ByteArray) (w : World) (h : RdAt w g p) (hp : p ≤ 100000) (hlb : lb ≠ g) (hlw : lb < w.heap.size) (hl : ∀ j : Nat, j < ns.length → w.cell? ⟨lb, j, none⟩ = some (.string (ns[j]!))) (h0 : 0 < ns.length) (hn : ns.length ≤ 1000) :
    Calls Tryz.prog 74 #[.pointer (some ⟨g, 0, none⟩), .slice (some ⟨lb, 0, none⟩) ns.length cap] w fun x w' => ∃ z : ByteArray, z ∈ ns ∧ x = .returned (.string z) ∧ RdAt w' g (p + 1) ∧ w.grownBy w' (some g) := by
  have hk := pickR_any g ns.length p w h hp (by omega)
  have HK := Lib.hid hk
  have HL := Lib.hid hl
  clear hk h hl
  go_enter Tryz.func74, Tryz.ntmps74
  go_wp2_with fail
  refine HK.out.mono ?_
  rintro x w2 ⟨q, rfl, hq, hR, hG⟩
  have hq2 := hq h0
  have hl2 := (hG.cell_far _ (by show lb < _; exact hlw) (by intro e; cases e; exact hlb rfl)).trans (HL.out q hq2)
  have HR := Lib.hid hR
  have HG := Lib.hid hG
  have hmem := getElem!_mem_ofB hq2
  obtain ⟨z, hz⟩ : ∃ z, z = ns[q]! := ⟨_, rfl⟩
  rw [← hz] at hl2 hmem
  have q0 : (0 : Int) ≤ (q : Int) := by omega
  have q1 : (q : Int) < (ns.length : Int) := by omega
  clear hR hG hq HK HL hz
  go_wp2_with fail
  go_ret
  exact ⟨z, hmem, rfl, HR.out, HG.out⟩

set_option maxRecDepth 100000 in
set_option maxHeartbeats 1000000 in
theorem open_any (v : Value) (m : Nat) (w : World) (hb : BytesAt w.heap.size w v m) (hm : m ≤ 1048576) :
    Calls Tryz.prog 48 #[v] w fun x w' => ∃ g, x = .returned (.pointer (some ⟨g, 0, none⟩)) ∧ w.heap.size ≤ g ∧ RdAt w' g 0 ∧ RowKit.Below w.heap.size w w' := by
  have hnew : ∀ u k, k ≤ 2000 → BytesAt w.heap.size w u k → RdAt (w.alloc (.cells #[u, .int .i64 0] 117)) w.heap.size 0 := by
    intro u k hk hb
    refine ⟨by simp, by simp, u, k, 0, hk, Nat.le_refl _, by simp, by simp, ?_⟩
    rcases hb with h1 | ⟨b, off, cap, h1, h2, h3, h4⟩
    · exact .inl h1
    · refine .inr ⟨b, off, cap, h1, h2, h3, fun j hj => ?_⟩
      obtain ⟨y, h5, h6⟩ := h4 j hj
      exact ⟨y, h5, (((Below.refl _ _).alloc (Nat.le_refl _) _).cell (p := ⟨b, off + j, none⟩) h3).trans h6⟩
  have hbe := fun o => ((Below.refl w.heap.size w).alloc (Nat.le_refl _) o)
  rcases hb with ⟨rfl, av0, cv0, rfl⟩ | ⟨b, off, cap, rfl, hc, hbl, hx⟩
  · have HN := Lib.hid (hnew _ 0 (by omega) (.inl ⟨rfl, av0, cv0, rfl⟩))
    have HB := Lib.hid hbe
    clear hnew hbe
    go_enter Tryz.func48, Tryz.ntmps48
    go_wp2_with fail
    go_ret
    exact ⟨w.heap.size, rfl, Nat.le_refl _, HN.out, HB.out _⟩
  · have HN := Lib.hid hnew
    have HB := Lib.hid hbe
    have HX := Lib.hid hx
    clear hx hnew hbe
    by_cases hm2 : m ≤ 2000
    · have HN2 := Lib.hid (HN.out (.slice (some ⟨b, off, none⟩) m cap) m hm2 (.inr ⟨b, off, cap, rfl, hc, hbl, HX.out⟩))
      go_enter Tryz.func48, Tryz.ntmps48
      go_wp2_with fail
      go_ret
      exact ⟨w.heap.size, rfl, Nat.le_refl _, HN2.out, HB.out _⟩
    · have HN2 := Lib.hid (HN.out (.slice (some ⟨b, off, none⟩) 2000 cap) 2000 (by omega) (.inr ⟨b, off, cap, rfl, by omega, hbl, fun j hj => HX.out j (by omega)⟩))
      go_enter Tryz.func48, Tryz.ntmps48
      go_wp2_with fail
      go_ret
      exact ⟨w.heap.size, rfl, Nat.le_refl _, HN2.out, HB.out _⟩

/-- A list written out, of numbers: what num returns is one of them. -/
theorem numLit_any (g p : Nat) (ns : List Int) (w : World) (h : RdAt w g p) (hp : p ≤ 100000) (h0 : 0 < ns.length) (hn : ns.length ≤ 1000) :
    Calls Tryz.prog 51 #[.pointer (some ⟨g, 0, none⟩), .slice (some ⟨w.heap.size, 0, none⟩) ns.length ns.length] (w.alloc (.cells (ns.map fun z => Value.int .i64 z).toArray 3)) fun x w' => ∃ z : Int, z ∈ ns ∧ x = .returned (.int .i64 z) ∧ RdAt w' g (p + 1) ∧ w.grownBy w' (some g) := by
  have hgl := h.1
  refine (num_any g p w.heap.size ns.length ns _ (h.alloc _) hp (by omega) (by simp) ?_ h0 hn).mono ?_
  · intro j hj
    simp [hj]
  · rintro x w' ⟨z, h1, h2, h3, h4⟩
    exact ⟨z, h1, h2, h3, grownBy_trans (World.grownBy_alloc _ _ _) h4⟩
theorem ofLit_any (g p : Nat) (ns : List ByteArray) (w : World) (h : RdAt w g p) (hp : p ≤ 100000) (h0 : 0 < ns.length) (hn : ns.length ≤ 1000) :
    Calls Tryz.prog 74 #[.pointer (some ⟨g, 0, none⟩), .slice (some ⟨w.heap.size, 0, none⟩) ns.length ns.length] (w.alloc (.cells (ns.map fun z => Value.string z).toArray 9)) fun x w' => ∃ z : ByteArray, z ∈ ns ∧ x = .returned (.string z) ∧ RdAt w' g (p + 1) ∧ w.grownBy w' (some g) := by
  have hgl := h.1
  refine (of_any g p w.heap.size ns.length ns _ (h.alloc _) hp (by omega) (by simp) ?_ h0 hn).mono ?_
  · intro j hj
    simp [hj]
  · rintro x w' ⟨z, h1, h2, h3, h4⟩
    exact ⟨z, h1, h2, h3, grownBy_trans (World.grownBy_alloc _ _ _) h4⟩

set_option maxRecDepth 100000 in
set_option maxHeartbeats 2000000 in
theorem anyKey_any (g p : Nat) (w : World) (h : RdAt w g p) (hp : p ≤ 50000) :
    Calls Tryz.prog 64 #[.pointer (some ⟨g, 0, none⟩)] w fun x w' => ∃ z : Int, x = .returned (.int .i64 z) ∧ RdAt w' g (p + 4) ∧ w.grownBy w' (some g) := by
  have HR := Lib.hid h
  have HK := Lib.hid (fun q W (hW : RdAt W g q) (hq : q ≤ 100000) => pickR_any g 32 q W hW hq (by omega))
  clear h
  go_enter Tryz.func64, Tryz.ntmps64
  go_wp2_with fail
  refine (HK.out p _ HR.out (by omega)).mono ?_
  rintro x w1 ⟨q1, rfl, _, hR1, hG1⟩
  have HR1 := Lib.hid hR1
  have HG1 := Lib.hid hG1
  clear hR1 hG1
  go_wp2_with fail
  refine (HK.out (p + 1) _ HR1.out (by omega)).mono ?_
  rintro x w2 ⟨q2, rfl, _, hR2, hG2⟩
  have HR2 := Lib.hid hR2
  have HG2 := Lib.hid (grownBy_trans HG1.out hG2)
  clear hR2 hG2 HR1 HG1
  go_wp2_with fail
  refine (HK.out (p + 2) _ HR2.out (by omega)).mono ?_
  rintro x w3 ⟨q3, rfl, _, hR3, hG3⟩
  have HR3 := Lib.hid hR3
  have HG3 := Lib.hid (grownBy_trans HG2.out hG3)
  clear hR3 hG3 HR2 HG2
  go_wp2_with fail
  refine (numLit_any g (p + 3) [(q1 : Int), (q2 : Int), (q3 : Int), 0, 31, 32, -1] _ HR3.out (by omega) (by simp) (by simp)).mono ?_
  rintro x w4 ⟨z, _, rfl, hR4, hG4⟩
  have HR4 := Lib.hid hR4
  have HG4 := Lib.hid (grownBy_trans HG3.out hG4)
  clear hR4 hG4 HR3 HG3
  go_wp2_with fail
  go_ret
  exact ⟨z, rfl, HR4.out, HG4.out⟩
end Go.Proofs.YtjpcpiffffobcaaGreatDoor
