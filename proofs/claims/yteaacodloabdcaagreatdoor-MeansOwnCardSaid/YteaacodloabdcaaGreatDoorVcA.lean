import Derived.Test.YteaacodloabdcaaGreatDoorMtA
import Derived.BigRegion
import Derived.Test.YteaacodloabdcaaGreatDoorBsA
import Derived.Test.YteaacodloabdcaaGreatDoorPlA
namespace Go.Proofs.YteaacodloabdcaaGreatDoor
open Go.RowKit

/-- A number that may be. -/
def mayX (x : Int) : Bool := decide (-1048576 ≤ x ∧ x ≤ 1048576)
/-- A vector that may be. -/
def mayB (A : List Int) (d : Int) : Bool := decide (1 ≤ d ∧ d ≤ 8 ∧ (A.length : Int) = d) && A.all mayX
theorem mayB_dim {A : List Int} {d : Int} (h : ¬ (1 ≤ d ∧ d ≤ 8 ∧ (A.length : Int) = d)) : mayB A d = false := by
  unfold mayB
  rw [decide_eq_false h]
  rfl
theorem mayB_bad {A : List Int} {d : Int} {j : Nat} (hj : j < A.length) (h : ¬ (-1048576 ≤ A.getD j 0 ∧ A.getD j 0 ≤ 1048576)) : mayB A d = false := by
  unfold mayB
  have : A.all mayX = false := by
    rw [List.all_eq_false]
    refine ⟨A[j], List.getElem_mem _, ?_⟩
    have e : A.getD j 0 = A[j] := by simp [List.getD, hj]
    rw [e] at h
    simpa [mayX] using h
  rw [this, Bool.and_false]
theorem mayB_all {A : List Int} {d : Int} (hd : 1 ≤ d ∧ d ≤ 8 ∧ (A.length : Int) = d) (h : ∀ j, j < A.length → -1048576 ≤ A.getD j 0 ∧ A.getD j 0 ≤ 1048576) : mayB A d = true := by
  unfold mayB
  rw [decide_eq_true hd, Bool.true_and, List.all_eq_true]
  intro x hx
  obtain ⟨j, hj, rfl⟩ := List.mem_iff_getElem.1 hx
  have := h j hj
  have e : A.getD j 0 = A[j] := by simp [List.getD, hj]
  rw [e] at this
  simpa [mayX] using this
set_option maxRecDepth 100000 in
set_option maxHeartbeats 2000000 in
theorem may_at {w : World} {a : Option Addr} {n c : Nat} {A : List Int} (h : VecAt w a n c A) (d : Int) :
    Calls Tryz.prog 36 #[.slice a n c, .int .i64 d] w fun e w' => e = .returned (.bool (mayB A d)) ∧ w' = w := by
  have HA : Hid (VecAt w a n c A) := h
  have hl := h.len
  clear h
  by_cases hd : 1 ≤ d ∧ d ≤ 8 ∧ (A.length : Int) = d
  · obtain ⟨h1, h2, h3⟩ := hd
    have HD : Hid (1 ≤ d ∧ d ≤ 8 ∧ (A.length : Int) = d) := ⟨h1, h2, h3⟩
    obtain rfl : d = n := by omega
    clear hl h3
    go_enter Tryz.func36, Tryz.ntmps36
    go_wp2_with fail
    go_loopw [21] (fun s21 wr => ∃ j : Nat, j ≤ n ∧ s21 = .int .i64 j ∧ wr = w ∧ Hid (∀ i, i < j → -1048576 ≤ A.getD i 0 ∧ A.getD i 0 ≤ 1048576)) (fun s21 _ => n - (RowKit.intOf s21).toNat)
    case atStart => exact ⟨0, Nat.zero_le _, rfl, rfl, fun i h => absurd h (Nat.not_lt_zero _)⟩
    case round =>
      obtain ⟨j, hj, rfl, rfl, HI⟩ := hrel
      by_cases hlt : j < n
      · obtain ⟨b, o, rfl, hb, hc, f1, f2⟩ := HA.out.cell j hlt
        have HS : Hid ((-1048576 ≤ A.getD j 0 ∧ A.getD j 0 ≤ 1048576) → ∀ i, i < j + 1 → -1048576 ≤ A.getD i 0 ∧ A.getD i 0 ≤ 1048576) := fun e i hi => by
          rcases Nat.lt_succ_iff_lt_or_eq.1 hi with h | rfl
          · exact HI.out i h
          · exact e
        have HF : Hid (¬ (-1048576 ≤ A.getD j 0 ∧ A.getD j 0 ≤ 1048576) → mayB A n = false) := mayB_bad (by have := HA.out.len; omega)
        generalize A.getD j 0 = x at *
        clear HI
        by_cases hx1 : x < -1048576
        · have HB : Hid (mayB A n = false) := HF.out (by omega)
          go_wp2_with fail
          go_ret
          exact ⟨by rw [HB.out]; rfl, rfl⟩
        · by_cases hx2 : 1048576 < x
          · have HB : Hid (mayB A n = false) := HF.out (by omega)
            go_wp2_with fail
            go_ret
            exact ⟨by rw [HB.out]; rfl, rfl⟩
          · have HI2 : Hid (∀ i, i < j + 1 → -1048576 ≤ A.getD i 0 ∧ A.getD i 0 ≤ 1048576) := HS.out (by omega)
            clear HS HF
            go_wp2_with fail
            exact ⟨⟨j + 1, hlt, rfl, trivial, HI2⟩, by simp [RowKit.intOf]; omega⟩
      · obtain rfl : j = n := by omega
        have HB : Hid (mayB A j = true) := mayB_all HD.out (fun i hi => HI.out i (by have := HA.out.len; omega))
        clear HI
        go_wp2_with fail
        go_ret
        exact ⟨by rw [HB.out]; rfl, rfl⟩
  · have HB : Hid (mayB A d = false) := mayB_dim hd
    rw [hl] at hd
    rcases (show d < 1 ∨ (¬ d < 1 ∧ 8 < d) ∨ (¬ d < 1 ∧ ¬ 8 < d ∧ ¬ (n : Int) = d) by omega) with h1 | ⟨h1, h2⟩ | ⟨h1, h2, h3⟩
    · clear hd hl
      go_enter Tryz.func36, Tryz.ntmps36
      go_wp2_with fail
      go_ret
      exact ⟨by rw [HB.out]; rfl, rfl⟩
    · clear hd hl
      go_enter Tryz.func36, Tryz.ntmps36
      go_wp2_with fail
      go_ret
      exact ⟨by rw [HB.out]; rfl, rfl⟩
    · clear hd hl
      go_enter Tryz.func36, Tryz.ntmps36
      go_wp2_with fail
      go_ret
      exact ⟨by rw [HB.out]; rfl, rfl⟩
end Go.Proofs.YteaacodloabdcaaGreatDoor

namespace Go.Proofs.YteaacodloabdcaaGreatDoor
open Go.RowKit

theorem getD_ext {A B : List Int} (hl : A.length = B.length) (h : ∀ i, i < A.length → A.getD i 0 = B.getD i 0) : A = B := by
  apply List.ext_getElem hl
  intro i h1 h2
  have := h i h1
  simpa [List.getD, h1, h2] using this
theorem dec_ne {A B : List Int} {j : Nat} (h : A.getD j 0 ≠ B.getD j 0) : decide (A = B) = false := by
  by_cases e : A = B
  · exact absurd (by rw [e]) h
  · simp [e]
theorem i32_draw {w : World} : Below w.heap.size w w.drew := ⟨rfl, rfl, rfl, Nat.le_refl _, fun _ _ => rfl⟩
set_option maxRecDepth 100000 in
set_option maxHeartbeats 2000000 in
theorem eqS_at {w : World} {a b : Option Addr} {m n c d : Nat} {A B : List Int} (hA : VecAt w a m c A) (hB : VecAt w b n d B) (hm : m ≤ 1000000000) :
    Calls Tryz.prog 46 #[.slice a m c, .slice b n d] w fun e w' => e = .returned (.bool (decide (A = B))) ∧ Below w.heap.size w w' := by
  rcases (show m ≠ n ∨ m = n by omega) with hmn | hmn
  · have hne : decide (A = B) = false := by
      by_cases e : A = B
      · exact absurd (by rw [← hA.len, ← hB.len, e]) hmn
      · simp [e]
    rw [hne]
    clear hne hA hB
    go_enter Tryz.func46, Tryz.ntmps46
    go_wp2_with fail
    go_ret
    exact ⟨rfl, Below.refl _ _⟩
  subst hmn
  have HAB : Hid (VecAt w a m c A ∧ VecAt w b m d B) := ⟨hA, hB⟩
  clear hA hB
  go_enter Tryz.func46, Tryz.ntmps46
  go_wp2_with fail
  go_loopw [13] (fun s13 wr => ∃ j : Nat, j ≤ m ∧ s13 = .int .i64 j ∧ Hid (Below w.heap.size w wr ∧ ∀ i, i < j → A.getD i 0 = B.getD i 0)) (fun s13 _ => m - (RowKit.intOf s13).toNat)
  case atStart => exact ⟨0, Nat.zero_le _, rfl, Below.refl _ _, fun i h => absurd h (Nat.not_lt_zero _)⟩
  case round =>
    obtain ⟨j, hj, rfl, HI⟩ := hrel
    by_cases hlt : j < m
    · obtain ⟨ga, oa, rfl, hla, hca, _⟩ := HAB.out.1.cell j hlt
      obtain ⟨gb, ob, rfl, hlb, hcb, _⟩ := HAB.out.2.cell j hlt
      have d0 := (HI.out.1.cell (p := ⟨ga, oa + j, none⟩) hla).trans hca
      have d1 := (HI.out.1.cell (p := ⟨gb, ob + j, none⟩) hlb).trans hcb
      have HE : Hid (A.getD j 0 ≠ B.getD j 0 → decide (A = B) = false) := dec_ne
      have HS : Hid (A.getD j 0 = B.getD j 0 → ∀ i, i < j + 1 → A.getD i 0 = B.getD i 0) := fun e i hi => by
        rcases Nat.lt_succ_iff_lt_or_eq.1 hi with h | rfl
        · exact HI.out.2 i h
        · exact e
      have HD : Hid (Below w.heap.size w wr.drew) := HI.out.1.trans ((i32_draw (w := wr)).mono HI.out.1.size)
      generalize A.getD j 0 = x at *
      generalize B.getD j 0 = y at *
      clear hca hcb HI hla hlb
      have hlt' : (j : Int) < m := by omega
      go_wp2_with fail
      by_cases h1 : x = y
      · subst h1
        have HS1 : Hid (∀ i, i < j + 1 → A.getD i 0 = B.getD i 0) := HS.out rfl
        clear HS HE
        go_region
        have HI3 : Hid (Below w.heap.size w wr.drew ∧ ∀ i, i < j + 1 → A.getD i 0 = B.getD i 0) := ⟨HD.out, HS1.out⟩
        clear d0 d1 HD HS1 hlt'
        go_wp2_with fail
        exact ⟨⟨j + 1, hlt, rfl, HI3⟩, by simp [RowKit.intOf]; omega⟩
      · have HF : Hid (decide (A = B) = false) := HE.out h1
        clear HS HE
        go_region
        go_wp2_with fail
        go_ret
        exact ⟨by rw [HF.out]; rfl, HD.out⟩
    · obtain rfl : j = m := by omega
      have HT : Hid (decide (A = B) = true) := by
        show decide (A = B) = true
        have := getD_ext (A := A) (B := B) (by rw [HAB.out.1.len, HAB.out.2.len]) (fun i hi => HI.out.2 i (by rw [← HAB.out.1.len]; exact hi))
        simp [this]
      have HB : Hid (Below w.heap.size w wr) := HI.out.1
      clear HI
      go_wp2_with fail
      go_ret
      exact ⟨by rw [HT.out]; rfl, HB.out⟩
set_option maxRecDepth 100000 in
set_option maxHeartbeats 2000000 in
theorem eq_at {w : World} {a b : Option Addr} {m n c d : Nat} {A B : List Int} (hA : VecAt w a m c A) (hB : VecAt w b n d B) (hm : m ≤ 1000000000) :
    Calls Tryz.prog 18 #[.slice a m c, .slice b n d] w fun e w' => e = .returned (.bool (decide (A = B))) ∧ Below w.heap.size w w' := by
  have HC := eqS_at hA hB hm
  generalize decide (A = B) = q at *
  clear hA hB
  go_enter Tryz.func18, Tryz.ntmps18
  go_wp2_with fail
  refine HC.mono ?_
  rintro e w1 ⟨rfl, hb⟩
  go_wp2_with fail
  go_ret
  exact ⟨rfl, hb⟩
end Go.Proofs.YteaacodloabdcaaGreatDoor

namespace Go.Proofs.YteaacodloabdcaaGreatDoor
open Go.RowKit Go.Maps

theorem infoI32 : (Tryz.prog.info? 21).map (fun i => (i.zero, i.size, i.bytes)) = some (some (.int .i32 0), 1, 4) := by kernel_rfl
/-- A vector that a call has made. -/
def VecR (w : World) (lo : Nat) (v : Value) (A : List Int) : Prop := w.ownsRow lo 21 1 v A.length (A.map (Value.int .i32))
theorem VecR.nil (w : World) (lo : Nat) : VecR w lo (.slice none 0 0) [] := World.ownsRow_nil _ _ _ _
theorem VecR.keep {S : Nat → Prop} {w w' : World} {lo : Nat} {v : Value} {A : List Int} (h : VecR w lo v A) (hk : Keeps S w w') (hs : ∀ i, lo ≤ i → ¬ S i) : VecR w' lo v A := ownsRow_stay h hk hs
theorem VecR.below {w w' : World} {lo : Nat} {v : Value} {A : List Int} (h : VecR w lo v A) (hb : Below w.heap.size w w') : VecR w' lo v A := h.keep (Keeps.of_below (S := fun _ => False) hb) (fun _ _ e => e)
theorem VecR.toAt {w : World} {lo : Nat} {v : Value} {A : List Int} (h : VecR w lo v A) (hf : ∀ x ∈ A, -2147483648 ≤ x ∧ x ≤ 2147483647) : ∃ p c, v = .slice p A.length c ∧ VecAt w p A.length c A ∧ ∀ q, p = some q → lo ≤ q.block ∧ q.off = 0 := by
  rcases h.2 with ⟨rfl, h0⟩ | ⟨g, cap, cur, rfl, hg, hH, hc, _, _, htk⟩
  · refine ⟨none, 0, by rw [h0], ⟨rfl, by omega, hf, Or.inl h0⟩, fun q e => by cases e⟩
  · refine ⟨_, cap, rfl, ⟨rfl, hc, hf, Or.inr ⟨g, 0, rfl, (Array.getElem?_eq_some_iff.1 hH).1, fun j hj => ?_⟩⟩, fun q e => by cases e; exact ⟨hg, rfl⟩⟩
    rw [Nat.zero_add, cell_of_row _ _ j _ 21 (0, 0) hH]
    have : (cur.toList.take (A.length * 1))[j]? = some (.int .i32 (A.getD j 0)) := by
      rw [htk, List.getElem?_map, List.getElem?_eq_getElem hj]; simp [List.getD, hj]
    rw [List.getElem?_take, if_pos (by omega)] at this
    simpa using this
set_option maxRecDepth 100000 in
set_option maxHeartbeats 2000000 in
theorem copy_at {w : World} {a : Option Addr} {n c : Nat} {A : List Int} (h : VecAt w a n c A) (hn : n ≤ 1000000000) :
    Calls Tryz.prog 17 #[.slice a n c] w fun e w' => ∃ v', e = .returned v' ∧ VecR w' w.heap.size v' A ∧ Below w.heap.size w w' := by
  obtain ⟨i0, hi, hz0, hz1, hz2⟩ := info_parts infoI32
  cases a with
  | none =>
    have h0 : n = 0 := by
      rcases h.at_ with h0 | ⟨b, o, e, _⟩
      · exact h0
      · cases e
    subst h0
    have hA : A = [] := List.eq_nil_of_length_eq_zero h.len
    subst hA
    clear h
    go_enter Tryz.func17, Tryz.ntmps17
    go_wp2_with fail
    go_ret
    exact ⟨_, rfl, VecR.nil _ _, Below.refl _ _⟩
  | some p =>
    have hlen : (A.map (Value.int .i32)).length = n * 1 := by rw [List.length_map, h.len, Nat.mul_one]
    have hcell : ∀ j u, (A.map (Value.int .i32))[j]? = some u → w.cell? (Addr.add p j) = some u := by
      intro j u hu
      rw [List.getElem?_map] at hu
      rcases hj : A[j]? with _ | x
      · rw [hj] at hu; cases hu
      · rw [hj] at hu
        obtain ⟨hl, hx⟩ := List.getElem?_eq_some_iff.1 hj
        obtain ⟨b, o, e, _, hc, _⟩ := h.cell j (by rw [← h.len]; exact hl)
        injection e with e
        subst e
        rw [Addr.add_mid, hc]
        have e2 : A.getD j 0 = x := by simp [List.getD, hl, hx]
        rw [e2]
        simpa using hu
    have HO : Hid (∀ u ∈ A.map (Value.int .i32), u.oneCell' = true) := by
      intro u hu
      obtain ⟨x, _, rfl⟩ := List.mem_map.1 hu
      rfl
    have hq4 : 0 + n ≤ maxLen := by unfold maxLen; omega
    have hq5 : (0 + n) * 4 ≤ 140737488355328 := by omega
    have HL : Hid (A.length = n) := h.len
    clear h
    go_enter Tryz.func17, Tryz.ntmps17
    go_wp2_with (at_builtin; refine wpList_append_own _ rfl _ _ 23 rfl w.heap.size 21 i0 (.int .i32 0) 1 4 Tryz.underlying23 hi hz0 hz1 hz2 rfl (by decide) (.slice none 0 0) 0 [] rfl (World.ownsRow_nil _ _ _ _) p n c (A.map (Value.int .i32)) rfl hlen hcell HO.out hq4 hq5 ?qc6 ?_)
    case qc6 => simp
    intro v9 w4 hown hgrow hnil
    have hb4 : RowKit.Below w.heap.size w w4 := (Below.refl _ w).grown hgrow (Nat.le_refl _) (by intro k hk; simp [Value.ownBlock] at hk)
    have HR : Hid (VecR w4 w.heap.size v9 A) := by
      show World.ownsRow _ _ _ _ _ _ _
      rw [HL.out]
      simpa using hown
    clear hown hgrow hnil hcell HO hlen
    go_wp2_with fail
    go_ret
    exact ⟨_, rfl, HR.out, hb4⟩
end Go.Proofs.YteaacodloabdcaaGreatDoor
