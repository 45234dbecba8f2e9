
/- The source of draws: l13Open, pick, of, num. -/
import Derived.Test.YtoiljohaicpncaaDoorKsTargetsSpec
import Derived.Deep.RegionHeld3
namespace Go.Proofs.YtoiljohaicpncaaDoor
open Go.RowKit Go.Shelf Go.Lib Go.Sort

/-- A readable row of bytes in a block below B. -/
def BytesAt (B : Nat) (w : World) (v : Value) (n : Nat) : Prop := (n = 0 ∧ ∃ a c, v = .slice a 0 c) ∨ ∃ b off cap, v = .slice (some ⟨b, off, none⟩) n cap ∧ n ≤ cap ∧ b < B ∧ ∀ j, j < n → ∃ x : Nat, x < 256 ∧ w.cell? ⟨b, off + j, none⟩ = some (.int .u8 x)

theorem wrap_small (z : Int) (h0 : 0 ≤ z) (h1 : z ≤ 1000000000) : IntKind.i64.wrap z = z := by rw [IntKind.wrap]; simp [IntKind.signed, IntKind.bits]; omega
theorem xor_small (a b : Nat) (ha : a ≤ 10000000) (hb : b ≤ 10000000) : bits .xor .i64 (a : Int) (b : Int) = ((a ^^^ b : Nat) : Int) := by
  have hx : a ^^^ b < 2 ^ 24 := Nat.xor_lt_two_pow (by omega) (by omega)
  unfold bits
  have e : (BitVec.ofInt IntKind.i64.bits (a : Int) ^^^ BitVec.ofInt IntKind.i64.bits (b : Int)).toNat = a ^^^ b := by
    rw [BitVec.toNat_xor]
    simp only [BitVec.ofInt_natCast, BitVec.toNat_ofNat, IntKind.bits]
    rw [Nat.mod_eq_of_lt (by omega), Nat.mod_eq_of_lt (by omega)]
  show IntKind.i64.wrap ((BitVec.ofInt IntKind.i64.bits (a : Int) ^^^ BitVec.ofInt IntKind.i64.bits (b : Int)).toNat : Int) = _
  rw [e]
  exact wrap_small _ (by omega) (by omega)

set_option maxRecDepth 100000 in
set_option maxHeartbeats 1000000 in
theorem pick_any (g n : Nat) (v : Value) (p m : Nat) (w : World) (hv : w.cell? ⟨g, 0, none⟩ = some v) (hp : w.cell? ⟨g, 1, none⟩ = some (.int .i64 p)) (hf : w.frozen? ⟨g, 1, none⟩ = false) (hgl : g < w.heap.size) (hb : BytesAt g w v m) (hm : m ≤ 2000) (hpp : p ≤ 100000) (hn : n ≤ 100000) :
    Calls Tryd.prog 101 #[.pointer (some ⟨g, 0, none⟩), .int .i64 n] w fun x w' => ∃ q : Nat, x = .returned (.int .i64 q) ∧ (0 < n → q < n) ∧ (w' = w.setCell ⟨g, 1, none⟩ (.int .i64 (p + 1)) ∨ w' = (w.setCell ⟨g, 1, none⟩ (.int .i64 (p + 1))).drew) := by
  by_cases hn0 : 0 < n
  · rcases hb with ⟨rfl, av0, cv0, rfl⟩ | ⟨b, off, cap, rfl, hc, hbl, hx⟩
    · go_enter Tryd.func101, Tryd.ntmps101
      go_wp2_with fail
      go_ret
      exact ⟨0, retI (by omega), fun h => h, .inl rfl⟩
    · have hgb : b ≠ g := by omega
      have hx2 : ∀ j, j < m → ∃ x : Nat, x < 256 ∧ (w.setCell ⟨g, 1, none⟩ (.int .i64 (p + 1))).cell? ⟨b, off + j, none⟩ = some (.int .u8 x) := by
        intro j hj
        obtain ⟨x, h1, h2⟩ := hx j hj
        exact ⟨x, h1, (World.cell?_setCell_other _ _ _ _ (by intro h; simp only [Addr.mk.injEq] at h; omega)).trans h2⟩
      clear hx
      by_cases hm0 : m = 0
      · subst hm0
        clear hx2
        go_enter Tryd.func101, Tryd.ntmps101
        go_wp2_with fail
        go_ret
        exact ⟨0, retI (by omega), fun h => h, .inl rfl⟩
      by_cases hpm : p < m
      · obtain ⟨x, h1, h2⟩ := hx2 p hpm
        clear hx2
        have e1 : decide ((n : Int) < 1) = false := decide_eq_false (by omega)
        have e2 : ((m : Int) == 0) = false := by simp; omega
        go_enter Tryd.func101, Tryd.ntmps101
        go_wp2_with fail
        go_ret
        exact ⟨x % n, retI (by simp), fun h => Nat.mod_lt _ h, .inl rfl⟩
      · obtain ⟨k1, hk1⟩ : ∃ k1, k1 = p % m := ⟨_, rfl⟩
        obtain ⟨k2, hk2⟩ : ∃ k2, k2 = (p * 7 + 3) % m := ⟨_, rfl⟩
        have k1m : k1 < m := by rw [hk1]; exact Nat.mod_lt _ (by omega)
        have k2m : k2 < m := by rw [hk2]; exact Nat.mod_lt _ (by omega)
        have i1 : (p : Int).tmod (m : Int) = (k1 : Int) := by rw [hk1, Int.tmod_eq_emod_of_nonneg (by omega)]; simp
        have i2 : ((p : Int) * 7 + 3).tmod (m : Int) = (k2 : Int) := by rw [hk2, Int.tmod_eq_emod_of_nonneg (by omega)]; simp
        have i3 : (p : Int).tdiv (m : Int) = ((p / m : Nat) : Int) := by rw [Int.tdiv_eq_ediv_of_nonneg (by omega)]; simp
        obtain ⟨k3, hk3⟩ : ∃ k3, k3 = p / m := ⟨_, rfl⟩
        rw [← hk3] at i3
        have k3m : k3 ≤ 100000 := by rw [hk3]; exact Nat.le_trans (Nat.div_le_self _ _) hpp
        clear hk1 hk2 hk3
        obtain ⟨x, h1, h2⟩ := hx2 k1 k1m
        obtain ⟨y, h3, h4⟩ := hx2 k2 k2m
        clear hx2
        have j0 : (0 : Int) ≤ (k1 : Int) := by omega
        have j1 : (k1 : Int) < (m : Int) := by omega
        have j2 : (0 : Int) ≤ (k2 : Int) := by omega
        have j3 : (k2 : Int) < (m : Int) := by omega
        have j8 : (m : Int) ≠ 0 := by omega
        have r1 : IntKind.i64.wrap ((x : Int) * 131) = (x : Int) * 131 := wrap_small _ (by omega) (by omega)
        have r2 : IntKind.i64.wrap ((y : Int) * 1117) = (y : Int) * 1117 := wrap_small _ (by omega) (by omega)
        have r3 : IntKind.i64.wrap ((x : Int) * 131 + (y : Int) * 1117) = (x : Int) * 131 + (y : Int) * 1117 := wrap_small _ (by omega) (by omega)
        have r4 : IntKind.i64.wrap ((p : Int) * 29) = (p : Int) * 29 := wrap_small _ (by omega) (by omega)
        have r5 : IntKind.i64.wrap ((x : Int) * 131 + (y : Int) * 1117 + (p : Int) * 29) = (x : Int) * 131 + (y : Int) * 1117 + (p : Int) * 29 := wrap_small _ (by omega) (by omega)
        have r6 : IntKind.i64.wrap ((k3 : Int) * 53) = (k3 : Int) * 53 := wrap_small _ (by omega) (by omega)
        obtain ⟨N, hN⟩ : ∃ N : Nat, N = x * 131 + y * 1117 + p * 29 + k3 * 53 := ⟨_, rfl⟩
        have r7 : IntKind.i64.wrap ((x : Int) * 131 + (y : Int) * 1117 + (p : Int) * 29 + (k3 : Int) * 53) = (N : Int) := by rw [wrap_small _ (by omega) (by omega), hN]; simp
        have r8 : IntKind.i64.wrap ((p : Int) * 7) = (p : Int) * 7 := wrap_small _ (by omega) (by omega)
        have r9 : IntKind.i64.wrap ((p : Int) * 7 + 3) = (p : Int) * 7 + 3 := wrap_small _ (by omega) (by omega)
        have hNb : N ≤ 10000000 := by omega
        obtain ⟨M, hM⟩ : ∃ M : Nat, M = N / 64 := ⟨_, rfl⟩
        have r10 : (N : Int).tdiv 64 = (M : Int) := by rw [Int.tdiv_eq_ediv_of_nonneg (by omega), hM]; simp
        have r11 : IntKind.i64.wrap (M : Int) = (M : Int) := wrap_small _ (by omega) (by omega)
        have r12 : (N : Int) / 64 = (M : Int) := by omega
        obtain ⟨Q, hQ⟩ : ∃ Q : Nat, Q = N ^^^ M := ⟨_, rfl⟩
        have r13 : bits .xor .i64 (N : Int) (M : Int) = (Q : Int) := by rw [hQ]; exact xor_small _ _ hNb (by omega)
        have r14 : bits .xor .i64 ((x : Int) * 131 + (y : Int) * 1117 + (p : Int) * 29 + (k3 : Int) * 53) (((x : Int) * 131 + (y : Int) * 1117 + (p : Int) * 29 + (k3 : Int) * 53) / 64) = (Q : Int) := by
          rw [show ((x : Int) * 131 + (y : Int) * 1117 + (p : Int) * 29 + (k3 : Int) * 53) = (N : Int) by rw [hN]; simp, r12, r13]
        clear hN hQ hM
        have e1 : decide ((n : Int) < 1) = false := decide_eq_false (by omega)
        have e2 : ((m : Int) == 0) = false := by simp; omega
        go_enter Tryd.func101, Tryd.ntmps101
        go_wp2_with fail
        obtain ⟨w2, hw2⟩ : ∃ w2, w2 = w.setCell ⟨g, 1, none⟩ (.int .i64 (p + 1)) := ⟨_, rfl⟩
        have hv2 : w2.cell? ⟨g, 0, none⟩ = some (.slice (some ⟨b, off, none⟩) m cap) := by rw [hw2]; exact (World.cell?_setCell_other _ _ _ _ (by intro h; simp only [Addr.mk.injEq] at h; omega)).trans hv
        rw [← hw2] at h2 h4 ⊢
        have HW2 := Lib.hid hw2
        clear hw2 hv hp hf
        go_region_held3 (fun w' => w'.cell? ⟨g, 0, none⟩ = some (.slice (some ⟨b, off, none⟩) m cap) ∧ w'.cell? ⟨b, off + k1, none⟩ = some (.int .u8 x) ∧ w'.cell? ⟨b, off + k2, none⟩ = some (.int .u8 y)) (go_keep) (fail)
        all_goals go_wp2_with fail
        go_ret
        exact ⟨Q % n, retI (by simp), fun h => Nat.mod_lt _ h, .inr (by rw [HW2.out])⟩
  · have hn1 : n = 0 := by omega
    subst hn1
    go_enter Tryd.func101, Tryd.ntmps101
    go_wp2_with fail
    go_ret
    exact ⟨0, retI (by omega), fun h => h, .inl rfl⟩
end Go.Proofs.YtoiljohaicpncaaDoor
