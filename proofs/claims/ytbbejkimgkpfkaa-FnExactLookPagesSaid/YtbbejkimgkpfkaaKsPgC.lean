
/- LookPages: the program's and the model's. -/
import Derived.Test.YtbbejkimgkpfkaaKsPgB
import Derived.Test.YtbbejkimgkpfkaaKsQuiet
namespace Go.Proofs.Ytbbejkimgkpfkaa
open Go.RowKit Go.Sort Go.Shelf

def lookPB (o : Array ByteArray) (x : Array Int) (key : Int) : Bool := pgB o && ixB o x && keyB key
def pageAt (o : Array ByteArray) (x : Array Int) (k : Nat) : ByteArray := o[(x[k / o[0]!.size]!).toNat]!
def lookPS (o : Array ByteArray) (x : Array Int) (key : Int) : ByteArray :=
  if lookPB o x key = true then (pageAt o x key.toNat).extract (key.toNat % o[0]!.size) (key.toNat % o[0]!.size + 1) else ⟨#[]⟩
theorem lookPS_no {o : Array ByteArray} {x : Array Int} {key : Int} (h : lookPB o x key = false) : lookPS o x key = ⟨#[]⟩ := by rw [lookPS, if_neg (by rw [h]; exact Bool.false_ne_true)]
theorem lookPB_no1 {o : Array ByteArray} {x : Array Int} {key : Int} (h : pgB o = false) : lookPB o x key = false := by simp [lookPB, h]
theorem lookPB_no2 {o : Array ByteArray} {x : Array Int} {key : Int} (h : ixB o x = false) : lookPB o x key = false := by simp [lookPB, h]
theorem lookPB_no3 {o : Array ByteArray} {x : Array Int} {key : Int} (h : keyB key = false) : lookPB o x key = false := by simp [lookPB, h]
/-- What holds where all is well: the numbers that both sides reckon. -/
structure PgOK (o : Array ByteArray) (x : Array Int) (k sz q i : Nat) : Prop where
  s0 : o[0]!.size = sz
  s1 : 1 ≤ sz
  s2 : sz ≤ 32
  q0 : q = k / sz
  q1 : q < x.size
  i0 : x[q]! = (i : Int)
  i1 : i < o.size
  all : allT o[i]! = true
  psz : o[i]!.size = sz
  p0 : 0 < o.size
theorem pgOK_of {o : Array ByteArray} {x : Array Int} {k : Nat} (h1 : pgB o = true) (h2 : ixB o x = true) (hk : k < 32) : ∃ sz q i, PgOK o x k sz q i := by
  obtain ⟨a1, a2, a3⟩ := (pgB_iff o).1 h1
  obtain ⟨b1, b2⟩ := (ixB_iff o x).1 h2
  have hs := sizeB_le a2
  have hq : k / o[0]!.size < x.size := by
    rw [Nat.div_lt_iff_lt_mul (by omega), b1]
    exact hk
  have hb := b2 _ hq
  obtain ⟨c1, c2⟩ := a3 (x[k / o[0]!.size]!).toNat (by omega)
  exact ⟨o[0]!.size, _, (x[k / o[0]!.size]!).toNat, rfl, hs.1, hs.2, rfl, hq, by omega, by omega, c1, c2, a1⟩
theorem PgOK.page {o : Array ByteArray} {x : Array Int} {k sz q i : Nat} (h : PgOK o x k sz q i) : pageAt o x k = o[i]! := by
  rw [pageAt, h.s0, ← h.q0, h.i0, Int.toNat_natCast]
theorem look_page {s : ByteArray} {r : Nat} (h1 : allT s = true) (h2 : s.size ≤ 32) (h3 : r < s.size) : lookOK s 0 (r : Int) = true ∧ lookS s 0 (r : Int) = s.extract r (r + 1) := by
  have h0 : lookOK s 0 (r : Int) = true := lookOK_yes h1 (by decide) (by simp [keyB]; omega) (by omega)
  refine ⟨h0, ?_⟩
  rw [lookS, if_pos h0, if_pos (by omega)]
  congr 1 <;> omega

set_option maxRecDepth 100000 in
set_option maxHeartbeats 2000000 in
theorem implPages_any (bp offp cp bx offx cx : Nat) (o : Array ByteArray) (x : Array Int) (key : Int) (w : World) (hP : RowT w bp offp o) (hX : RowN w bx offx x) (hn : o.size ≤ 1048576) (hxn : x.size ≤ 1048576) (hs : ∀ j, j < o.size → o[j]!.size ≤ 1048576) :
    Calls Try.prog 11 #[.slice (some ⟨bp, offp, none⟩) o.size cp, .slice (some ⟨bx, offx, none⟩) x.size cx, .int .i64 key] w fun y w' => y = .returned (.tuple #[.string (lookPS o x key), .bool (lookPB o x key)]) ∧ Below w.heap.size w w' := by
  have ha := arePages_any bp offp cp o w hP hn hs
  have HI := Lib.hid (fun h0 h32 W (hW : Below w.heap.size w W) => isIndex_any bp offp cp bx offx cx o x W (hP.below hW) (hX.below hW) h0 h32 hn hxn)
  have hk := fun W => isKey_any key W
  have HP := Lib.hid hP
  have HX := Lib.hid hX
  have hmi : (o.size : Int) ≤ 1048576 := by omega
  have hxi : (x.size : Int) ≤ 1048576 := by omega
  have HSZ := Lib.hid hs
  clear hP hX hs
  cases q1 : pgB o
  · rw [q1] at ha
    have HA := Lib.hid ha
    have HN := Lib.hid (lookPB_no1 (x := x) (key := key) q1)
    clear ha q1 hk
    go_enter Try.func11, Try.ntmps11
    go_wp2_with (go_at_call 22; refine HA.out.mono ?_; rintro y w2 ⟨rfl, hb2⟩; have HB2 := Lib.hid hb2; clear hb2)
    go_ret2
    exact ⟨ret2u (lookPS_no HN.out).symm HN.out.symm, HB2.out⟩
  · rw [q1] at ha
    have HA := Lib.hid ha
    have Q1 := Lib.hid q1
    have hpg := (pgB_iff o).1 q1
    have HIX := Lib.hid (fun W hW => HI.out hpg.1 (sizeB_le hpg.2.1).2 W hW)
    clear ha q1 hpg
    cases q2 : ixB o x
    · have HIX2 := HIX.out
      rw [q2] at HIX2
      have HII := Lib.hid HIX2
      have HN := Lib.hid (lookPB_no2 (key := key) q2)
      clear HIX2 q2 hk
      go_enter Try.func11, Try.ntmps11
      go_wp2_with (first
        | (go_at_call 22; refine HA.out.mono ?_; rintro y w2 ⟨rfl, hb2⟩; have HB2 := Lib.hid hb2; clear hb2)
        | (go_at_call 23; refine (HII.out _ HB2.out).mono ?_; rintro y w3 ⟨rfl, hb3⟩; have HB3 := Lib.hid (HB2.out.trans (hb3.mono HB2.out.size)); clear hb3))
      go_ret2
      exact ⟨ret2u (lookPS_no HN.out).symm HN.out.symm, HB3.out⟩
    · have HIX2 := HIX.out
      rw [q2] at HIX2
      have HII := Lib.hid HIX2
      have Q2 := Lib.hid q2
      clear HIX2 q2
      cases q3 : keyB key
      · rw [q3] at hk
        have HK := Lib.hid hk
        have HN := Lib.hid (lookPB_no3 (o := o) (x := x) q3)
        clear hk q3
        go_enter Try.func11, Try.ntmps11
        go_wp2_with (first
          | (go_at_call 22; refine HA.out.mono ?_; rintro y w2 ⟨rfl, hb2⟩; have HB2 := Lib.hid hb2; clear hb2)
          | (go_at_call 23; refine (HII.out _ HB2.out).mono ?_; rintro y w3 ⟨rfl, hb3⟩; have HB3 := Lib.hid (HB2.out.trans (hb3.mono HB2.out.size)); clear hb3)
          | (go_at_call 17; refine (HK.out _).mono ?_; rintro y w4 ⟨rfl, rfl⟩))
        go_ret2
        exact ⟨ret2u (lookPS_no HN.out).symm HN.out.symm, HB3.out⟩
      · rw [q3] at hk
        have HK := Lib.hid hk
        obtain ⟨k0, k1⟩ : 0 ≤ key ∧ key ≤ 31 := by simpa [keyB] using q3
        obtain ⟨k, rfl⟩ : ∃ k : Nat, key = k := ⟨key.toNat, by omega⟩
        obtain ⟨sz, q, i, hok⟩ := pgOK_of Q1.out Q2.out (k := k) (by omega)
        have HYES := Lib.hid (show lookPB o x (k : Int) = true by simp [lookPB, Q1.out, Q2.out, q3])
        obtain ⟨hl1, hl2⟩ := look_page (r := k % sz) hok.all (by have := hok.psz; have := hok.s2; omega) (by rw [hok.psz]; exact Nat.mod_lt _ hok.s1)
        have HRES := Lib.hid (show lookPS o x (k : Int) = (o[i]!).extract (k % sz) (k % sz + 1) by rw [lookPS, if_pos HYES.out, Int.toNat_natCast, hok.page, hok.s0])
        have HOK := Lib.hid hok
        have HLK := Lib.hid (fun W => implLook_any o[i]! 0 ((k % sz : Nat) : Int) W (HSZ.out i hok.i1))
        rw [hl1, hl2] at HLK
        have hq : (q : Int) < (x.size : Int) := by have := hok.q1; omega
        have hii : (i : Int) < (o.size : Int) := by have := hok.i1; omega
        have e1 : (k : Int) / (sz : Int) = (q : Int) := by rw [hok.q0]; rfl
        have e2 : (k : Int) % (sz : Int) = ((k % sz : Nat) : Int) := rfl
        have e3 : (k : Int).tmod (sz : Int) = ((k % sz : Nat) : Int) := rfl
        have e4 : (k : Int).tdiv (sz : Int) = (q : Int) := by rw [hok.q0]; rfl
        have hsz1 : (0 : Int) < (sz : Int) := by have := hok.s1; omega
        have hsz2 : (sz : Int) ≤ 32 := by have := hok.s2; omega
        have hsz0 : ¬ (sz : Int) = 0 := by omega
        have hq31 : (q : Int) ≤ 1048576 := by omega
        clear hk q3 hok hl1 hl2
        go_enter Try.func11, Try.ntmps11
        go_wp2_with (go_at_call 22; refine HA.out.mono ?_; rintro y w2 ⟨rfl, hb2⟩; have HB2 := Lib.hid hb2; clear hb2)
        refine (HII.out _ HB2.out).mono ?_
        rintro y w3 ⟨rfl, hb3⟩
        have HB3 := Lib.hid (HB2.out.trans (hb3.mono HB2.out.size))
        have P0 := (HP.out.below HB3.out).cell 0 HOK.out.p0
        rw [Nat.add_zero] at P0
        obtain ⟨s0, hs0⟩ : ∃ s0, s0 = o[0]! := ⟨_, rfl⟩
        rw [← hs0] at P0
        have hs0z : s0.size = sz := by rw [hs0]; exact HOK.out.s0
        have hpl : bp < w3.heap.size := (HP.out.below HB3.out).old
        have hop : (0 : Int) < (o.size : Int) := by have := HOK.out.p0; omega
        have HS0Z := Lib.hid hs0z
        clear hs0 hb3 hs0z
        go_wp2_with (go_at_call 17; refine (HK.out _).mono ?_; rintro y w4 ⟨rfl, rfl⟩)
        rw [HS0Z.out]
        have Q0 := (HX.out.below HB3.out).cell q HOK.out.q1
        have Pi := (HP.out.below HB3.out).cell i HOK.out.i1
        rw [HOK.out.i0] at Q0
        have hxl : bx < w3.heap.size := (HX.out.below HB3.out).old
        obtain ⟨pg, hpg⟩ : ∃ pg, pg = o[i]! := ⟨_, rfl⟩
        rw [← hpg] at Pi HLK HRES
        have HCL := Lib.hid (fun W (_ : Below w3.heap.size w3 W) => HLK.out W)
        have r1 := fun p : BW w3 => p.cell (a := ⟨bx, offx + q, none⟩) hxl Q0
        have r2 := fun p : BW w3 => p.cell (a := ⟨bp, offp + i, none⟩) hpl Pi
        obtain ⟨m, hm⟩ : ∃ m : Nat, m = k % sz := ⟨_, rfl⟩
        rw [← hm] at e2 e3 HCL HRES
        have hm32 : (m : Int) ≤ 32 := by have := Nat.mod_lt k HOK.out.s1; omega
        clear hpg hm P0 Q0 Pi
        refine wp_region_bw (by kernel_rfl) (by kernel_rfl) ?_
        repeat (go_big_quiet_step (((go_at_call 6; refine bw_of (HCL.out _ (BW.h _))))))
        refine wpQuiet_nil ?_
        rintro _ ⟨p, rfl⟩
        go_wp2_with fail
        go_ret2
        exact ⟨ret2u HRES.out.symm HYES.out.symm, HB3.out.trans (p.h.mono HB3.out.size)⟩
end Go.Proofs.Ytbbejkimgkpfkaa
