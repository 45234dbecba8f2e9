
/- LookTable of the program; the law on it. -/
import Derived.Test.YtbbejkimgkpfkaaDoorKsLookR
import Derived.Laws.BytesString
namespace Go.Proofs.YtbbejkimgkpfkaaDoor
open Go.RowKit

set_option maxRecDepth 100000 in
set_option maxHeartbeats 1000000 in
theorem rowAt_any (f : Nat → Int) (k : Nat) (hk : k < 32) (hf : 0 ≤ f k ∧ f k ≤ 255) (w : World) :
    Calls Tryd.prog 80 #[.agg (rowA f), .int .i64 k] w fun e w' => e = .returned (.int .u8 (if f k = 0 then 122 else f k)) ∧ Below w.heap.size w w' := by
  have hr : RowU (w.alloc (.cells (rowA f) 93)) w.heap.size f := heap_alloc_new _ _
  have y0 := hr.cell hk
  have hki : (k : Int) < 32 := by omega
  obtain ⟨z, hz⟩ : ∃ z, z = f k := ⟨_, rfl⟩
  rw [← hz] at y0 hf ⊢
  obtain ⟨h0, h1⟩ := hf
  clear hr hz
  by_cases e : z = 0
  · subst e
    go_enter Tryd.func80, Tryd.ntmps80
    go_wp2_with fail
    go_ret
    exact ⟨rfl, (Below.refl _ _).alloc (Nat.le_refl _) _⟩
  · have e' : (z == 0) = false := by simpa using e
    go_enter Tryd.func80, Tryd.ntmps80
    go_wp2_with fail
    go_ret
    exact ⟨rfl, (Below.refl _ _).alloc (Nat.le_refl _) _⟩

set_option maxRecDepth 100000 in
set_option maxHeartbeats 400000 in
theorem textU_any (c : UInt8) (w : World) : Calls Tryd.prog 81 #[.int .u8 (c.toNat : Int)] w fun x w' => x = .returned (.string ⟨#[c]⟩) ∧ Below w.heap.size w w' := by
  have hconv : Sem.run Tryd.prog (convert 22 9 (.slice (some ⟨w.heap.size, 0, none⟩) 1 1)) (w.alloc (.cells #[.int .u8 (c.toNat : Int)] 5)) = .ok (.string ⟨#[c]⟩) (w.alloc (.cells #[.int .u8 (c.toNat : Int)] 5)) := by
    rw [run_convert_bytes_string _ _ _ _ _ _ _ Tryd.underlying22 Tryd.underlying5 Tryd.underlying9, run_bytesToString _ _ _ _ [(c.toNat : Int)] (by go_simp)]
    have : UInt8.ofNat ((c.toNat : Int)).toNat = c := by simp
    simp only [List.foldl_cons, List.foldl_nil, this]
    rfl
  have hb : (c.toNat : Int) ≤ 255 := by have := c.toNat_lt; omega
  go_enter Tryd.func81, Tryd.ntmps81
  go_wp2
  go_ret
  exact ⟨rfl, (Below.refl _ _).alloc (Nat.le_refl _) _⟩

theorem lookOK_rd (s : ByteArray) (low key : Int) : lookOK s low key = (rdB s low && keyB key) := by
  simp only [lookOK, rdB]
  cases allT s <;> cases keyB low <;> cases keyB key <;> simp
/-- The byte that the row gives. -/
def ofC (s : ByteArray) (low key : Nat) : UInt8 := if h : low ≤ key ∧ key < low + s.size then s[key - low] else 122
theorem tgWB_pos {c : UInt8} (h : tgWB c = true) : ¬ (c.toNat : Int) = 0 := by
  simp only [tgWB, tgtB, Bool.or_eq_true, decide_eq_true_eq] at h
  omega
theorem ofC_row {s : ByteArray} {low : Nat} (h : rdB s low = true) (key : Nat) : (if rdF s low key = 0 then 122 else rdF s low key) = ((ofC s low key).toNat : Int) := by
  simp only [rdB, Bool.and_eq_true] at h
  have ha := (allT_iff s).1 h.2
  unfold rdF ofC
  by_cases hk : low ≤ key ∧ key < low + s.size
  · have := tgWB_pos (ha (key - low) (by omega))
    rw [dif_pos hk, dif_pos hk, if_neg this]
  · rw [dif_neg hk, dif_neg hk, if_pos rfl]
    rfl
theorem ofC_look {s : ByteArray} {low key : Nat} (h : lookOK s low key = true) : lookS s low key = ⟨#[ofC s low key]⟩ := by
  rw [lookS, if_pos h]
  unfold ofC
  by_cases hk : low ≤ key ∧ key < low + s.size
  · rw [if_pos (by omega), dif_pos hk]
    have e : ((key : Int) - (low : Int)).toNat = key - low := by omega
    rw [e]
    apply ByteArray.ext
    rw [ByteArray.data_extract]
    apply Array.ext_getElem?
    intro i
    rw [Array.getElem?_extract]
    have hs : key - low < s.data.size := by have : s.data.size = s.size := rfl; omega
    by_cases hi : i = 0
    · subst hi
      rw [if_pos (by omega)]
      simp only [Nat.add_zero]
      rw [Array.getElem?_eq_getElem hs]
      rfl
    · rw [if_neg (by omega), Array.getElem?_eq_none (by simp; omega)]
  · rw [if_neg (by omega), dif_neg hk]
    rfl

set_option maxRecDepth 100000 in
set_option maxHeartbeats 1000000 in
theorem implLook_any (s : ByteArray) (low key : Int) (w : World) (hs : s.size ≤ 1048576) : Calls Tryd.prog 27 #[.string s, .int .i64 low, .int .i64 key] w fun e w' => e = .returned (.tuple #[.string (lookS s low key), .bool (lookOK s low key)]) ∧ Below w.heap.size w w' := by
  have HR := Lib.hid (readRow_any s low w hs)
  have hk := fun W => isKey_any key W
  have HOKE := Lib.hid (lookOK_rd s low key)
  obtain ⟨f, hf⟩ : ∃ f, f = rdR s low := ⟨_, rfl⟩
  rw [← hf] at HR
  have HF := Lib.hid hf
  clear hf
  cases q1 : rdB s low <;> cases q2 : keyB key
  all_goals
    simp only [q2] at hk
    rw [q1] at HR
    rw [q1, q2] at HOKE
    have HK := Lib.hid hk
    have Q1 := Lib.hid q1
    have Q2 := Lib.hid q2
    clear hk q1 q2
    go_enter Tryd.func27, Tryd.ntmps27
    go_wp2_with fail
    refine HR.out.mono ?_
    rintro x w1 ⟨rfl, hb1⟩
    have HB1 := Lib.hid hb1
    clear hb1
  iterate 3
    · go_wp2_with (first
        | (refine wpList_store_row rfl 93 (.tmp 8) (.tmp 14) rfl w1.heap.size (rowA f) rfl rfl 93 _ (heap_alloc_new _ _) (infoRowA _) (by rw [rowA_size]; rfl) (rowA_one _) ?_; rw [World.setRow_alloc_new])
        | (go_at_call 79; refine (HK.out _).mono ?_; rintro y w2 ⟨rfl, rfl⟩))
      go_ret2
      have hno : lookOK s low key = false := HOKE.out
      exact ⟨ret2u (lookS_no hno).symm hno.symm, HB1.out.alloc HB1.out.size _⟩
  · obtain ⟨k0, k1⟩ : 0 ≤ key ∧ key ≤ 31 := by simpa [keyB] using Q2.out
    obtain ⟨kn, rfl⟩ : ∃ kn : Nat, key = kn := ⟨key.toNat, by omega⟩
    have hlow : 0 ≤ low ∧ low ≤ 31 := by have := Q1.out; simp only [rdB, keyB, Bool.and_eq_true, decide_eq_true_eq] at this; exact this.1.1
    obtain ⟨ln, rfl⟩ : ∃ ln : Nat, low = ln := ⟨low.toNat, by omega⟩
    have hfe : f = rdF s ln := by rw [HF.out, rdR, if_pos Q1.out]; rfl
    have ho := ofC_row Q1.out kn
    rw [← hfe] at ho
    have hfr : 0 ≤ f kn ∧ f kn ≤ 255 := by
      rw [hfe, rdF]
      split
      · have := (s[kn - ln]).toNat_lt; omega
      · omega
    have HO := Lib.hid (fun W => rowAt_any f kn (by omega) hfr W)
    rw [ho] at HO
    have HL := Lib.hid (show lookS s ln kn = ⟨#[ofC s ln kn]⟩ from ofC_look (show _ = true from HOKE.out))
    obtain ⟨c, hc⟩ : ∃ c, c = ofC s ln kn := ⟨_, rfl⟩
    rw [← hc] at HO HL
    have HT := Lib.hid (fun W => textU_any c W)
    clear hfe ho hfr hc hlow
    go_wp2_with (first
      | (refine wpList_store_row rfl 93 (.tmp 8) (.tmp 14) rfl w1.heap.size (rowA f) rfl rfl 93 _ (heap_alloc_new _ _) (infoRowA _) (by rw [rowA_size]; rfl) (rowA_one _) ?_; rw [World.setRow_alloc_new])
      | (refine wpList_load_row rfl 93 (.tmp 8) rfl w1.heap.size rfl 93 _ _ _ (heap_alloc_new _ _) Tryd.underlying93 rfl (infoRowA _) ?_)
      | (go_at_call 79; refine (HK.out _).mono ?_; rintro y w2 ⟨rfl, rfl⟩)
      | (go_at_call 80; refine (HO.out _).mono ?_; rintro y w3 ⟨rfl, hb3⟩; have HB3 := Lib.hid ((HB1.out.alloc HB1.out.size _).trans (hb3.mono (by have := HB1.out.size; simp; omega))); clear hb3)
      | (go_at_call 81; refine (HT.out _).mono ?_; rintro y w4 ⟨rfl, hb4⟩; have HB4 := Lib.hid (HB3.out.trans (hb4.mono HB3.out.size)); clear hb4))
    go_ret2
    exact ⟨ret2u HL.out.symm HOKE.out.symm, HB4.out⟩
end Go.Proofs.YtbbejkimgkpfkaaDoor
