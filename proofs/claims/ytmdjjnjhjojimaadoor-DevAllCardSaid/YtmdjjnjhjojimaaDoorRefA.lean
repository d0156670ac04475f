import Derived.Test.YtmdjjnjhjojimaaDoorNum
import Derived.Test.YtmdjjnjhjojimaaDoorFailC
namespace Go.Proofs.YtmdjjnjhjojimaaDoor
open Go.RowKit Go.Maps

theorem fits_q (n : Int) (i : Nat) : fits (i + 1) n ↔ -128 ≤ n / 256 ^ i ∧ n / 256 ^ i < 128 := by
  have e : (2 : Int) ^ (8 * (i + 1) - 1) = 128 * 256 ^ i := by
    rw [show 8 * (i + 1) - 1 = 7 + 8 * i by omega, Int.pow_add, Int.pow_mul]; rfl
  have hp : 0 < (256 : Int) ^ i := Int.pow_pos (by omega)
  rw [Int.le_ediv_iff_mul_le hp, Int.ediv_lt_iff_lt_mul hp]
  unfold fits
  rw [e]
  generalize (256 : Int) ^ i = p
  constructor <;> (intro h; omega)

/-- A row's last byte. -/
theorem enc_last {w : World} {base g c : Nat} {n : Int} {i : Nat} (h : w.ownsRow base 5 1 (.slice (some ⟨g, 0, none⟩) (i + 1) c) (i + 1) (bytesV (encTo n (i + 1)))) : w.cell? ⟨g, i, none⟩ = some (.int .u8 (n / 256 ^ i % 256)) := by
  obtain ⟨_, ⟨e, _⟩ | ⟨g', cap, cur, e, _, hblk, _, _, _, hcur⟩⟩ := h
  · cases e
  · cases e
    rw [cell_of_row _ _ i cur 5 (0, 0) hblk]
    have h1 := congrArg (fun l => l[i]?) hcur
    simp only [List.getElem?_take] at h1
    rw [if_pos (by omega)] at h1
    rw [encTo_succ, bytesV_append, List.getElem?_append_right (by rw [bytesV_length, encTo_length]; omega), bytesV_length, encTo_length, Nat.sub_self] at h1
    have h2 : (bytesV [byteAt n i])[0]? = some (bV (byteAt n i)) := rfl
    rw [h2, bV_byteAt, u8_wrap] at h1
    simpa using h1

/-- A row's cells. -/
theorem row_cell {w : World} {base g m c : Nat} {xs : List Value} (h : w.ownsRow base 5 1 (.slice (some ⟨g, 0, none⟩) m c) m xs) {j : Nat} {u : Value} (hu : xs[j]? = some u) : w.cell? ⟨g, j, none⟩ = some u := by
  obtain ⟨hl, ⟨e, _⟩ | ⟨g', cap, cur, e, _, hblk, _, _, _, hcur⟩⟩ := h
  · cases e
  · cases e
    rw [cell_of_row _ _ j cur 5 (0, 0) hblk]
    rw [← hcur, List.getElem?_take] at hu
    split at hu
    · simpa using hu
    · cases hu
theorem enc_cells (n : Int) : bytesV (encInt n) = [.int .u8 (wid n)] ++ bytesV (encTo n (wid n)) := by
  rw [← bV_wid]; rfl

theorem and_255 (n : Int) : bits BinOp.and IntKind.i64 n 255 % 256 = n % 256 := by
  show IntKind.i64.wrap ((BitVec.ofInt 64 n &&& BitVec.ofInt 64 255).toNat : Int) % 256 = _
  rw [BitVec.toNat_and, BitVec.toNat_ofInt, show (BitVec.ofInt 64 255).toNat = 2 ^ 8 - 1 from by decide, Nat.and_two_pow_sub_one_eq_mod]
  simp [IntKind.wrap, IntKind.bits, IntKind.signed]
  omega

set_option maxRecDepth 100000 in
set_option maxHeartbeats 1000000 in
theorem refInt_any (n : Int) (w : World) (h0 : -9223372036854775808 ≤ n) (h1 : n ≤ 9223372036854775807) :
    Calls Tryd.prog 27 #[.int .i64 n] w fun e w' => ∃ g c, e = .returned (.slice (some ⟨g, 0, none⟩) (1 + wid n) c) ∧ w'.ownsRow w.heap.size 5 1 (.slice (some ⟨g, 0, none⟩) (1 + wid n) c) (1 + wid n) (bytesV (encInt n)) ∧ Below w.heap.size w w' := by
  obtain ⟨i0, hi, hz0, hz1, hz2⟩ := info_parts info5
  have hwl := wid_le8 n h0 h1
  go_enter Tryd.func27, Tryd.ntmps27
  go_wp2
  go_loopg [3, 4] (wid n) (fun k b m wr => ∃ (j : Nat) (a : Option Addr) (c : Nat), j + k = wid n ∧ b = .slice a j c ∧ m = .int .i64 (n / 256 ^ j) ∧ wr.ownsRow w.heap.size 5 1 (.slice a j c) j (bytesV (encTo n j)) ∧ Below w.heap.size w wr ∧ (j = 0 → a = none ∧ c = 0))
  case atStart => exact ⟨0, none, 0, by omega, rfl, by simp, World.ownsRow_nil _ _ _ _, Below.refl _ _, fun _ => ⟨rfl, rfl⟩⟩
  case round =>
    obtain ⟨j, a, c, hj, rfl, rfl, hown, hb, hnil⟩ := hrel
    have hbs := hb.size
    have HJ : Hid (j + gk = wid n) := hj
    have HR : Hid (wr.ownsRow w.heap.size 5 1 (.slice a j c) j (bytesV (encTo n j))) := hown
    clear hj hown
    by_cases hk : gk = 0
    · subst hk
      cases j with
      | zero =>
        have hn0 : n = 0 := by
          refine Classical.byContradiction (fun x => ?_)
          have h2 := wid_pos n x
          have h3 := HJ.out
          omega
        subst hn0
        obtain ⟨rfl, rfl⟩ := hnil rfl
        clear hnil hwl
        rw [show (0 : Int) / 256 ^ 0 = 0 from rfl]
        go_wp2_with fail
        go_ret
        exact ⟨wr.heap.size, 1, rfl, ⟨rfl, Or.inr ⟨wr.heap.size, 1, #[.int .u8 0], rfl, hbs, heap_alloc_last wr _, by decide, by decide, rfl, rfl⟩⟩, hb.alloc hbs _⟩
      | succ i =>
        have hf : fits (i + 1) n := by
          have h3 := HJ.out
          have hn : n ≠ 0 := by
            rintro rfl
            have : wid 0 = 0 := rfl
            omega
          have := wid_fits n h0 h1 hn
          rwa [← h3] at this
        have hq := (fits_q n i).1 hf
        obtain ⟨g, rfl⟩ : ∃ g, a = some ⟨g, 0, none⟩ := by
          obtain ⟨_, ⟨e, _⟩ | ⟨g, cap, cur, e, _⟩⟩ := HR.out
          · cases e
          · cases e; exact ⟨g, rfl⟩
        have hcell := enc_last HR.out
        rw [← div_step]
        have hi8 : i ≤ 8 := by have := HJ.out; omega
        have hz : ((i : Int) + 1 == 0) = false := by simp; omega
        clear hf hnil
        generalize n / 256 ^ i = q at hq hcell ⊢
        by_cases hs : 0 ≤ q
        · rw [show q / 256 = 0 by omega]
          rw [show q % 256 = q by omega] at hcell
          go_wp2_with (at_builtin; refine wpList_append_own_at _ rfl _ _ 33 rfl w.heap.size 5 i0 (.int .u8 0) 1 1 Tryd.underlying33 hi hz0 hz1 hz2 rfl (by decide) _ 1 [.int .u8 ((i : Int) + 1)] rfl ?q0 ⟨g, 0, none⟩ (i + 1) c (bytesV (encTo n (i + 1))) rfl ?q5 ?q6 ?q1 ?q2 ?q3 ?q4 ?_)
          case q0 => exact ⟨rfl, Or.inr ⟨wr.heap.size, 1, #[.int .u8 ((i : Int) + 1)], rfl, hbs, heap_alloc_last wr _, by omega, by decide, rfl, rfl⟩⟩
          case q5 => rw [bytesV_length, encTo_length]; try omega
          case q6 =>
            intro j u hu
            have h9 := row_cell (HR.out.alloc (.cells #[.int .u8 ((i : Int) + 1)] 5)) hu
            by_cases hj0 : j = 0
            · subst hj0; exact h9
            · simpa [Addr.add, hj0] using h9
          case q1 => exact bytesV_one _
          case q2 => unfold maxLen; omega
          case q3 => omega
          case q4 => first | omega | (simp; omega)
          intro v1 w1 hown1 hg1 hnil1 hloc1
          obtain ⟨g1, c1, rfl⟩ : ∃ g c, v1 = .slice (some ⟨g, 0, none⟩) (1 + (i + 1)) c := by
            obtain ⟨_, ⟨e, x⟩ | ⟨g, cap, cur, e, _⟩⟩ := hown1
            · omega
            · exact ⟨g, cap, e⟩
          have hb1 : Below w.heap.size w w1 := (hb.alloc hbs _).grown hg1 (by simp; omega) (fun k e => by cases e; exact hbs)
          have HO : Hid (w1.ownsRow w.heap.size 5 1 (.slice (some ⟨g1, 0, none⟩) (1 + wid n) c1) (1 + wid n) (bytesV (encInt n))) := by
            have h3 := HJ.out
            show w1.ownsRow w.heap.size 5 1 (.slice (some ⟨g1, 0, none⟩) (1 + wid n) c1) (1 + wid n) (bytesV (encInt n))
            rw [enc_cells n, ← h3]
            exact hown1
          have HE : Hid (i + 1 + 0 = wid n) := HJ.out
          clear hown1 hg1 hloc1 hnil1 hcell
          go_wp2
          go_ret
          refine ⟨g1, c1, ?_, HO.out, hb1⟩
          rw [← HE.out]
          rfl
        · rw [show q / 256 = -1 by omega]
          rw [show q % 256 = q + 256 by omega] at hcell
          go_wp2_with (at_builtin; refine wpList_append_own_at _ rfl _ _ 33 rfl w.heap.size 5 i0 (.int .u8 0) 1 1 Tryd.underlying33 hi hz0 hz1 hz2 rfl (by decide) _ 1 [.int .u8 ((i : Int) + 1)] rfl ?q0 ⟨g, 0, none⟩ (i + 1) c (bytesV (encTo n (i + 1))) rfl ?q5 ?q6 ?q1 ?q2 ?q3 ?q4 ?_)
          case q0 => exact ⟨rfl, Or.inr ⟨wr.heap.size, 1, #[.int .u8 ((i : Int) + 1)], rfl, hbs, heap_alloc_last wr _, by omega, by decide, rfl, rfl⟩⟩
          case q5 => rw [bytesV_length, encTo_length]; try omega
          case q6 =>
            intro j u hu
            have h9 := row_cell (HR.out.alloc (.cells #[.int .u8 ((i : Int) + 1)] 5)) hu
            by_cases hj0 : j = 0
            · subst hj0; exact h9
            · simpa [Addr.add, hj0] using h9
          case q1 => exact bytesV_one _
          case q2 => unfold maxLen; omega
          case q3 => omega
          case q4 => first | omega | (simp; omega)
          intro v1 w1 hown1 hg1 hnil1 hloc1
          obtain ⟨g1, c1, rfl⟩ : ∃ g c, v1 = .slice (some ⟨g, 0, none⟩) (1 + (i + 1)) c := by
            obtain ⟨_, ⟨e, x⟩ | ⟨g, cap, cur, e, _⟩⟩ := hown1
            · omega
            · exact ⟨g, cap, e⟩
          have hb1 : Below w.heap.size w w1 := (hb.alloc hbs _).grown hg1 (by simp; omega) (fun k e => by cases e; exact hbs)
          have HO : Hid (w1.ownsRow w.heap.size 5 1 (.slice (some ⟨g1, 0, none⟩) (1 + wid n) c1) (1 + wid n) (bytesV (encInt n))) := by
            have h3 := HJ.out
            show w1.ownsRow w.heap.size 5 1 (.slice (some ⟨g1, 0, none⟩) (1 + wid n) c1) (1 + wid n) (bytesV (encInt n))
            rw [enc_cells n, ← h3]
            exact hown1
          have HE : Hid (i + 1 + 0 = wid n) := HJ.out
          clear hown1 hg1 hloc1 hnil1 hcell
          go_wp2
          go_ret
          refine ⟨g1, c1, ?_, HO.out, hb1⟩
          rw [← HE.out]
          rfl
    · have hk1 : 0 < gk := by omega
      obtain ⟨k', rfl⟩ : ∃ k', gk = k' + 1 := ⟨gk - 1, by omega⟩
      clear hk hk1
      have hdb := div_bound n j h0 h1
      have hbyte := bV_byteAt n j
      rw [u8_wrap] at hbyte
      have hdiv := div_step n j
      cases j with
      | zero =>
        have hn0 : (n == 0) = false := by
          have h3 := HJ.out
          have : n ≠ 0 := by
            rintro rfl
            have : wid 0 = 0 := rfl
            omega
          simpa using this
        obtain ⟨rfl, rfl⟩ := hnil rfl
        clear hnil
        have e0 : n / 256 ^ 0 = n := by simp
        rw [e0] at hdb hbyte hdiv ⊢
        have HB : Hid (bV (byteAt n 0) = .int .u8 (n % 256)) := hbyte
        have HD : Hid (n / 256 = n / 256 ^ (0 + 1)) := hdiv
        clear hdb hbyte hdiv e0
        by_cases hm : n = -1
        · subst hm
          go_wp2_with (at_builtin; refine wpList_append_own_at _ rfl _ _ 33 rfl w.heap.size 5 i0 (.int .u8 0) 1 1 Tryd.underlying33 hi hz0 hz1 hz2 rfl (by decide) _ 0 _ rfl (HR.out.alloc _) ⟨wr.heap.size, 0, none⟩ 1 1 [.int .u8 (bits BinOp.and IntKind.i64 (-1) 255 % 256)] rfl rfl (cell_one_new _ _ _) ?q1 ?q2 ?q3 ?q4 ?_)
          case q1 => intro u hu; simp only [List.mem_singleton] at hu; subst hu; rfl
          case q2 => first | (unfold maxLen; omega) | decide
          case q3 => omega
          case q4 => first | omega | (simp; omega)
          intro v1 w1 hown1 hg1 hnil1 hloc1
          obtain ⟨g1, c1, rfl⟩ : ∃ g c, v1 = .slice (some ⟨g, 0, none⟩) (0 + 1) c := by
            obtain ⟨_, ⟨e, x⟩ | ⟨g, cap, cur, e, _⟩⟩ := hown1
            · omega
            · exact ⟨g, cap, e⟩
          have hb1 : Below w.heap.size w w1 := (hb.alloc hbs _).grown hg1 (by simp; omega) (fun k e => by
            obtain ⟨_, ⟨e', _⟩ | ⟨g', cap, cur, e', r1, _⟩⟩ := HR.out
            · rw [e'] at e; cases e
            · rw [e'] at e; cases e; exact r1)
          have HO : Hid (w1.ownsRow w.heap.size 5 1 (.slice (some ⟨g1, 0, none⟩) (0 + 1) c1) (0 + 1) (bytesV (encTo (-1) (0 + 1)))) := by
            show w1.ownsRow w.heap.size 5 1 (.slice (some ⟨g1, 0, none⟩) (0 + 1) c1) (0 + 1) (bytesV (encTo (-1) (0 + 1)))
            rw [encTo_succ, bytesV_append, show bytesV [byteAt (-1) (0)] = [bV (byteAt (-1) (0))] from rfl, HB.out, ← and_255]
            exact hown1
          clear hown1 hg1 hloc1 hnil1
          go_wp2
          go_roundg k'
          case measure => omega
          case rel => exact ⟨0 + 1, some ⟨g1, 0, none⟩, c1, by have := HJ.out; omega, rfl, by rw [← HD.out] <;> rfl, HO.out, hb1, fun e => by omega⟩
        · have hm' : (n == -1) = false := by simpa using hm
          clear hm
          go_wp2_with (at_builtin; refine wpList_append_own_at _ rfl _ _ 33 rfl w.heap.size 5 i0 (.int .u8 0) 1 1 Tryd.underlying33 hi hz0 hz1 hz2 rfl (by decide) _ 0 _ rfl (HR.out.alloc _) ⟨wr.heap.size, 0, none⟩ 1 1 [.int .u8 (bits BinOp.and IntKind.i64 n 255 % 256)] rfl rfl (cell_one_new _ _ _) ?q1 ?q2 ?q3 ?q4 ?_)
          case q1 => intro u hu; simp only [List.mem_singleton] at hu; subst hu; rfl
          case q2 => first | (unfold maxLen; omega) | decide
          case q3 => omega
          case q4 => first | omega | (simp; omega)
          intro v1 w1 hown1 hg1 hnil1 hloc1
          obtain ⟨g1, c1, rfl⟩ : ∃ g c, v1 = .slice (some ⟨g, 0, none⟩) (0 + 1) c := by
            obtain ⟨_, ⟨e, x⟩ | ⟨g, cap, cur, e, _⟩⟩ := hown1
            · omega
            · exact ⟨g, cap, e⟩
          have hb1 : Below w.heap.size w w1 := (hb.alloc hbs _).grown hg1 (by simp; omega) (fun k e => by
            obtain ⟨_, ⟨e', _⟩ | ⟨g', cap, cur, e', r1, _⟩⟩ := HR.out
            · rw [e'] at e; cases e
            · rw [e'] at e; cases e; exact r1)
          have HO : Hid (w1.ownsRow w.heap.size 5 1 (.slice (some ⟨g1, 0, none⟩) (0 + 1) c1) (0 + 1) (bytesV (encTo n (0 + 1)))) := by
            show w1.ownsRow w.heap.size 5 1 (.slice (some ⟨g1, 0, none⟩) (0 + 1) c1) (0 + 1) (bytesV (encTo n (0 + 1)))
            rw [encTo_succ, bytesV_append, show bytesV [byteAt n (0)] = [bV (byteAt n (0))] from rfl, HB.out, ← and_255]
            exact hown1
          clear hown1 hg1 hloc1 hnil1
          go_wp2
          go_roundg k'
          case measure => omega
          case rel => exact ⟨0 + 1, some ⟨g1, 0, none⟩, c1, by have := HJ.out; omega, rfl, by rw [← HD.out] <;> rfl, HO.out, hb1, fun e => by omega⟩
      | succ i =>
        have hf : ¬ fits (i + 1) n := by
          intro hf
          have h3 := HJ.out
          have h4 := wid_of_fits (i + 1) n (by omega) (by omega) hf
          omega
        have hq : ¬ (-128 ≤ n / 256 ^ i ∧ n / 256 ^ i < 128) := fun x => hf ((fits_q n i).2 x)
        obtain ⟨g, rfl⟩ : ∃ g, a = some ⟨g, 0, none⟩ := by
          obtain ⟨_, ⟨e, _⟩ | ⟨g, cap, cur, e, _⟩⟩ := HR.out
          · cases e
          · cases e; exact ⟨g, rfl⟩
        have hcell := enc_last HR.out
        have e1 := div_step n i
        have hi8 : i ≤ 8 := by have := HJ.out; omega
        have hz : ((i : Int) + 1 == 0) = false := by simp; omega
        clear hf hnil
        obtain ⟨m, hm⟩ : ∃ m, n / 256 ^ (i + 1) = m := ⟨_, rfl⟩
        rw [hm] at hdb hbyte hdiv e1 ⊢
        clear hm
        have HB : Hid (bV (byteAt n (i + 1)) = .int .u8 (m % 256)) := hbyte
        have HD : Hid (m / 256 = n / 256 ^ (i + 1 + 1)) := hdiv
        have hy : 0 ≤ n / 256 ^ i % 256 ∧ n / 256 ^ i % 256 < 256 := by omega
        have hcase : (m = 0 ∧ 128 ≤ n / 256 ^ i % 256) ∨ (m = -1 ∧ n / 256 ^ i % 256 < 128) ∨ (m ≠ 0 ∧ m ≠ -1) := by omega
        clear hbyte hdiv hq e1
        generalize n / 256 ^ i % 256 = y at hcell hy hcase
        rcases hcase with ⟨rfl, hy2⟩ | ⟨rfl, hy2⟩ | ⟨hm1, hm2⟩
        · clear hdb
          go_wp2_with (at_builtin; refine wpList_append_own_at _ rfl _ _ 33 rfl w.heap.size 5 i0 (.int .u8 0) 1 1 Tryd.underlying33 hi hz0 hz1 hz2 rfl (by decide) _ (i + 1) _ rfl (HR.out.alloc _) ⟨wr.heap.size, 0, none⟩ 1 1 [.int .u8 (bits BinOp.and IntKind.i64 0 255 % 256)] rfl rfl (cell_one_new _ _ _) ?q1 ?q2 ?q3 ?q4 ?_)
          case q1 => intro u hu; simp only [List.mem_singleton] at hu; subst hu; rfl
          case q2 => first | (unfold maxLen; omega) | decide
          case q3 => omega
          case q4 => first | omega | (simp; omega)
          intro v1 w1 hown1 hg1 hnil1 hloc1
          obtain ⟨g1, c1, rfl⟩ : ∃ g c, v1 = .slice (some ⟨g, 0, none⟩) ((i + 1) + 1) c := by
            obtain ⟨_, ⟨e, x⟩ | ⟨g, cap, cur, e, _⟩⟩ := hown1
            · omega
            · exact ⟨g, cap, e⟩
          have hb1 : Below w.heap.size w w1 := (hb.alloc hbs _).grown hg1 (by simp; omega) (fun k e => by
            obtain ⟨_, ⟨e', _⟩ | ⟨g', cap, cur, e', r1, _⟩⟩ := HR.out
            · rw [e'] at e; cases e
            · rw [e'] at e; cases e; exact r1)
          have HO : Hid (w1.ownsRow w.heap.size 5 1 (.slice (some ⟨g1, 0, none⟩) ((i + 1) + 1) c1) ((i + 1) + 1) (bytesV (encTo n ((i + 1) + 1)))) := by
            show w1.ownsRow w.heap.size 5 1 (.slice (some ⟨g1, 0, none⟩) ((i + 1) + 1) c1) ((i + 1) + 1) (bytesV (encTo n ((i + 1) + 1)))
            rw [encTo_succ, bytesV_append, show bytesV [byteAt n ((i + 1))] = [bV (byteAt n ((i + 1)))] from rfl, HB.out, ← and_255]
            exact hown1
          clear hown1 hg1 hloc1 hnil1
          go_wp2
          go_roundg k'
          case measure => omega
          case rel => exact ⟨(i + 1) + 1, some ⟨g1, 0, none⟩, c1, by have := HJ.out; omega, rfl, by rw [← HD.out] <;> rfl, HO.out, hb1, fun e => by omega⟩
        · clear hdb
          go_wp2_with (at_builtin; refine wpList_append_own_at _ rfl _ _ 33 rfl w.heap.size 5 i0 (.int .u8 0) 1 1 Tryd.underlying33 hi hz0 hz1 hz2 rfl (by decide) _ (i + 1) _ rfl (HR.out.alloc _) ⟨wr.heap.size, 0, none⟩ 1 1 [.int .u8 (bits BinOp.and IntKind.i64 (-1) 255 % 256)] rfl rfl (cell_one_new _ _ _) ?q1 ?q2 ?q3 ?q4 ?_)
          case q1 => intro u hu; simp only [List.mem_singleton] at hu; subst hu; rfl
          case q2 => first | (unfold maxLen; omega) | decide
          case q3 => omega
          case q4 => first | omega | (simp; omega)
          intro v1 w1 hown1 hg1 hnil1 hloc1
          obtain ⟨g1, c1, rfl⟩ : ∃ g c, v1 = .slice (some ⟨g, 0, none⟩) ((i + 1) + 1) c := by
            obtain ⟨_, ⟨e, x⟩ | ⟨g, cap, cur, e, _⟩⟩ := hown1
            · omega
            · exact ⟨g, cap, e⟩
          have hb1 : Below w.heap.size w w1 := (hb.alloc hbs _).grown hg1 (by simp; omega) (fun k e => by
            obtain ⟨_, ⟨e', _⟩ | ⟨g', cap, cur, e', r1, _⟩⟩ := HR.out
            · rw [e'] at e; cases e
            · rw [e'] at e; cases e; exact r1)
          have HO : Hid (w1.ownsRow w.heap.size 5 1 (.slice (some ⟨g1, 0, none⟩) ((i + 1) + 1) c1) ((i + 1) + 1) (bytesV (encTo n ((i + 1) + 1)))) := by
            show w1.ownsRow w.heap.size 5 1 (.slice (some ⟨g1, 0, none⟩) ((i + 1) + 1) c1) ((i + 1) + 1) (bytesV (encTo n ((i + 1) + 1)))
            rw [encTo_succ, bytesV_append, show bytesV [byteAt n ((i + 1))] = [bV (byteAt n ((i + 1)))] from rfl, HB.out, ← and_255]
            exact hown1
          clear hown1 hg1 hloc1 hnil1
          go_wp2
          go_roundg k'
          case measure => omega
          case rel => exact ⟨(i + 1) + 1, some ⟨g1, 0, none⟩, c1, by have := HJ.out; omega, rfl, by rw [← HD.out] <;> rfl, HO.out, hb1, fun e => by omega⟩
        · have t1 : (m == 0) = false := by simpa using hm1
          have t2 : (m == -1) = false := by simpa using hm2
          clear hm1 hm2
          go_wp2_with (at_builtin; refine wpList_append_own_at _ rfl _ _ 33 rfl w.heap.size 5 i0 (.int .u8 0) 1 1 Tryd.underlying33 hi hz0 hz1 hz2 rfl (by decide) _ (i + 1) _ rfl (HR.out.alloc _) ⟨wr.heap.size, 0, none⟩ 1 1 [.int .u8 (bits BinOp.and IntKind.i64 m 255 % 256)] rfl rfl (cell_one_new _ _ _) ?q1 ?q2 ?q3 ?q4 ?_)
          case q1 => intro u hu; simp only [List.mem_singleton] at hu; subst hu; rfl
          case q2 => first | (unfold maxLen; omega) | decide
          case q3 => omega
          case q4 => first | omega | (simp; omega)
          intro v1 w1 hown1 hg1 hnil1 hloc1
          obtain ⟨g1, c1, rfl⟩ : ∃ g c, v1 = .slice (some ⟨g, 0, none⟩) ((i + 1) + 1) c := by
            obtain ⟨_, ⟨e, x⟩ | ⟨g, cap, cur, e, _⟩⟩ := hown1
            · omega
            · exact ⟨g, cap, e⟩
          have hb1 : Below w.heap.size w w1 := (hb.alloc hbs _).grown hg1 (by simp; omega) (fun k e => by
            obtain ⟨_, ⟨e', _⟩ | ⟨g', cap, cur, e', r1, _⟩⟩ := HR.out
            · rw [e'] at e; cases e
            · rw [e'] at e; cases e; exact r1)
          have HO : Hid (w1.ownsRow w.heap.size 5 1 (.slice (some ⟨g1, 0, none⟩) ((i + 1) + 1) c1) ((i + 1) + 1) (bytesV (encTo n ((i + 1) + 1)))) := by
            show w1.ownsRow w.heap.size 5 1 (.slice (some ⟨g1, 0, none⟩) ((i + 1) + 1) c1) ((i + 1) + 1) (bytesV (encTo n ((i + 1) + 1)))
            rw [encTo_succ, bytesV_append, show bytesV [byteAt n ((i + 1))] = [bV (byteAt n ((i + 1)))] from rfl, HB.out, ← and_255]
            exact hown1
          clear hown1 hg1 hloc1 hnil1
          go_wp2
          go_roundg k'
          case measure => omega
          case rel => exact ⟨(i + 1) + 1, some ⟨g1, 0, none⟩, c1, by have := HJ.out; omega, rfl, by rw [← HD.out] <;> rfl, HO.out, hb1, fun e => by omega⟩
end Go.Proofs.YtmdjjnjhjojimaaDoor
