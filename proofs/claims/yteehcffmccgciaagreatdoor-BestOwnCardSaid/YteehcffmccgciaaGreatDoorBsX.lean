import Derived.Test.YteehcffmccgciaaGreatDoorBsW
import Derived.BigRegion
namespace Go.Proofs.YteehcffmccgciaaGreatDoor
open Go.RowKit Go.Maps

theorem hat_ext {A B : List Hit} (hl : A.length = B.length) (h : ∀ i, i < A.length → hat A i = hat B i) : A = B := by
  apply List.ext_getElem hl
  intro i h1 h2
  have := h i h1
  rw [hat_lt h1, hat_lt h2] at this
  exact this
theorem ne_or_eq_n (m n : Nat) : m ≠ n ∨ m = n := by omega
theorem hits_eq_false {A B : List Hit} {j : Nat} (h : hat A j ≠ hat B j) : decide (A = B) = false := by
  by_cases e : A = B
  · exact absurd (by rw [e]) h
  · simp [e]
set_option maxRecDepth 100000 in
set_option maxHeartbeats 2000000 in
/-- The law's own comparison of two lists of hits. -/
theorem hits_at {w : World} {a b : Option Addr} {m n c d : Nat} {A B : List Hit} (hA : HitsIn w a m A) (hB : HitsIn w b n B) (hm : m ≤ 1000000) (hn : n ≤ 1000000) :
    Calls Tryz.prog 29 #[.slice a m c, .slice b n d] w fun e w' => e = .returned (.bool (decide (A = B))) ∧ Below w.heap.size w w' := by
  rcases ne_or_eq_n m n with hmn | hmn
  · have hne : decide (A = B) = false := by
      by_cases e : A = B
      · exact absurd (by rw [← hA.len, ← hB.len, e]) hmn
      · simp [e]
    rw [hne]
    clear hne hA hB
    go_enter Tryz.func29, Tryz.ntmps29
    go_wp2_with fail
    go_ret
    exact ⟨rfl, Below.refl _ _⟩
  subst hmn
  have HAB : Hid (HitsIn w a m A ∧ HitsIn w b m B) := ⟨hA, hB⟩
  clear hA hB
  go_enter Tryz.func29, Tryz.ntmps29
  go_wp2_with fail
  go_loopw [13] (fun s13 wr => ∃ j : Nat, j ≤ m ∧ s13 = .int .i64 j ∧ Hid (Below w.heap.size w wr ∧ ∀ i, i < j → hat A i = hat B i)) (fun s13 _ => m - (RowKit.intOf s13).toNat)
  case atStart => exact ⟨0, Nat.zero_le _, rfl, Below.refl _ _, fun i h => absurd h (Nat.not_lt_zero _)⟩
  case round =>
    obtain ⟨j, hj, rfl, HI⟩ := hrel
    by_cases hlt : j < m
    · have HLA := HAB.out.1.len
      have HLB := HAB.out.2.len
      obtain ⟨ga, oa, rfl, hla, hca⟩ : ∃ b o, a = some ⟨b, o, none⟩ ∧ b < w.heap.size ∧ ∀ j, j < m → w.cell? ⟨b, o + j * 2, none⟩ = some (.int .i64 (hat A j).1) ∧ w.cell? ⟨b, o + j * 2 + 1, none⟩ = some (.int .i64 (hat A j).2) := by
        rcases HAB.out.1.at_ with h0 | h0
        · omega
        · exact h0
      obtain ⟨gb, ob, rfl, hlb, hcb⟩ : ∃ g o, b = some ⟨g, o, none⟩ ∧ g < w.heap.size ∧ ∀ j, j < m → w.cell? ⟨g, o + j * 2, none⟩ = some (.int .i64 (hat B j).1) ∧ w.cell? ⟨g, o + j * 2 + 1, none⟩ = some (.int .i64 (hat B j).2) := by
        rcases HAB.out.2.at_ with h0 | h0
        · omega
        · exact h0
      have d0 := (HI.out.1.cell (p := ⟨ga, oa + j * 2, none⟩) hla).trans (hca j hlt).1
      have d1 := (HI.out.1.cell (p := ⟨ga, oa + j * 2 + 1, none⟩) hla).trans (hca j hlt).2
      have d2 := (HI.out.1.cell (p := ⟨gb, ob + j * 2, none⟩) hlb).trans (hcb j hlt).1
      have d3 := (HI.out.1.cell (p := ⟨gb, ob + j * 2 + 1, none⟩) hlb).trans (hcb j hlt).2
      have HE : Hid ((hat A j = hat B j ↔ (hat A j).1 = (hat B j).1 ∧ (hat A j).2 = (hat B j).2) ∧ (hat A j ≠ hat B j → decide (A = B) = false)) := ⟨Prod.ext_iff, hits_eq_false⟩
      have HS : Hid (hat A j = hat B j → ∀ i, i < j + 1 → hat A i = hat B i) := fun e i hi => by
        rcases Nat.lt_succ_iff_lt_or_eq.1 hi with h | rfl
        · exact HI.out.2 i h
        · exact e
      have HB : Hid (Below w.heap.size w wr) := HI.out.1
      have hb0 : Below wr.heap.size wr wr.drew := ⟨rfl, rfl, rfl, Nat.le_refl _, fun _ _ => rfl⟩
      have HD : Hid (Below w.heap.size w wr.drew) := HI.out.1.trans (hb0.mono HI.out.1.size)
      generalize hat A j = x at *
      generalize hat B j = y at *
      obtain ⟨x1, x2⟩ := x
      obtain ⟨y1, y2⟩ := y
      simp only at d0 d1 d2 d3
      clear hca hcb HI hla hlb hb0 HLA HLB
      go_wp2_with fail
      have hlt' : (j : Int) < m := by omega
      by_cases h1 : x1 = y1
      · subst h1
        by_cases h2 : x2 = y2
        · subst h2
          have HS1 : Hid (∀ i, i < j + 1 → hat A i = hat B i) := HS.out rfl
          clear HS HE
          go_region
          have HI3 : Hid (Below w.heap.size w wr.drew ∧ ∀ i, i < j + 1 → hat A i = hat B i) := ⟨HD.out, HS1.out⟩
          clear d0 d1 d2 d3 HB HD HS1 hlt'
          go_wp2_with fail
          exact ⟨⟨j + 1, hlt, rfl, HI3⟩, by simp [RowKit.intOf]; omega⟩
        · have HF : Hid (decide (A = B) = false) := HE.out.2 (fun e => h2 (HE.out.1.1 e).2)
          clear HS HE
          go_region
          go_wp2_with fail
          go_ret
          exact ⟨by rw [HF.out]; rfl, HD.out⟩
      · have HF : Hid (decide (A = B) = false) := HE.out.2 (fun e => h1 (HE.out.1.1 e).1)
        clear HS HE
        go_region
        go_wp2_with fail
        go_ret
        exact ⟨by rw [HF.out]; rfl, HD.out⟩
    · obtain rfl : j = m := by omega
      have HT : Hid (decide (A = B) = true) := by
        show decide (A = B) = true
        have := hat_ext (A := A) (B := B) (by rw [HAB.out.1.len, HAB.out.2.len]) (fun i hi => HI.out.2 i (by rw [← HAB.out.1.len]; exact hi))
        simp [this]
      have HB : Hid (Below w.heap.size w wr) := HI.out.1
      clear HI
      go_wp2_with fail
      go_ret
      exact ⟨by rw [HT.out]; rfl, HB.out⟩
end Go.Proofs.YteehcffmccgciaaGreatDoor
