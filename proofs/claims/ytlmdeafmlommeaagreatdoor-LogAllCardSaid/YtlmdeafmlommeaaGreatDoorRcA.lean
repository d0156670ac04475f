import Derived.Test.YtlmdeafmlommeaaGreatDoorWlM
import Derived.Deep.QuietTactic
import Derived.BigQuiet
namespace Go.Proofs.YtlmdeafmlommeaaGreatDoor
open Go.RowKit Go.Maps

theorem RecsU.shape {w : World} {U : Nat → Prop} {v : Value} {R : List (List UInt8)} (h : RecsU w U v R) : ∃ p c, v = .slice p R.length c := by
  obtain ⟨V, _, ⟨rfl, rfl⟩ | ⟨g, cap, cur, rfl, _⟩, _⟩ := h
  · exact ⟨none, 0, rfl⟩
  · exact ⟨_, _, rfl⟩
theorem RecsU.at_ {w : World} {U : Nat → Prop} {v : Value} {R : List (List UInt8)} (h : RecsU w U v R) (j : Nat) (hj : j < R.length) : ∃ g cap ge ce, v = .slice (some ⟨g, 0, none⟩) R.length cap ∧ w.cell? ⟨g, j, none⟩ = some (.slice (some ⟨ge, 0, none⟩) (R[j]'hj).length ce) ∧ w.rangeAt ge 0 (bytesV (R[j]'hj)) ∧ U g ∧ U ge := by
  obtain ⟨V, hl, hO, hV⟩ := h
  rcases hO with ⟨_, h0⟩ | ⟨g, cap, cur, rfl, hu, hg, h1, h2, h3, h4⟩
  · rw [h0] at hj; exact absurd hj (by simp)
  · have hjV : j < V.length := by omega
    obtain ⟨ge, ce, e, hc, hue, hb⟩ := hV j _ _ (List.getElem?_eq_getElem hjV) (List.getElem?_eq_getElem hj)
    refine ⟨g, cap, ge, ce, rfl, ?_, hb.range, hu, hue⟩
    rw [cell_of_row _ _ j _ 34 (0, 0) hg]
    have : (cur.toList.take R.length)[j]? = some V[j] := by rw [h4]; exact List.getElem?_eq_getElem hjV
    rw [List.getElem?_take, if_pos hj, e] at this
    simpa using this
theorem take_eq_succ' {α : Type} {A1 A2 : List α} {j : Nat} (h1 : j < A1.length) (h2 : j < A2.length) (h : A1.take j = A2.take j) (e : A1[j] = A2[j]) : A1.take (j + 1) = A2.take (j + 1) := by
  rw [List.take_succ_eq_append_getElem h1, List.take_succ_eq_append_getElem h2, h, e]
set_option maxRecDepth 100000 in
set_option maxHeartbeats 1000000 in
theorem records_at {w : World} {U1 U2 : Nat → Prop} {v1 v2 : Value} {R1 R2 : List (List UInt8)} (h1 : RecsU w U1 v1 R1) (h2 : RecsU w U2 v2 R2) (hb : R1.length ≤ 1000000) :
    Calls Tryz.prog 24 #[v1, v2] w fun e w' => e = .returned (.bool (decide (R1 = R2))) ∧ Same w w' := by
  obtain ⟨p1, c1, e1⟩ := h1.shape
  obtain ⟨p2, c2, e2⟩ := h2.shape
  subst e1 e2
  by_cases hn : R1.length = R2.length
  · have H1 : Hid (RecsU w U1 (.slice p1 R1.length c1) R1 ∧ RecsU w U2 (.slice p2 R2.length c2) R2) := ⟨h1, h2⟩
    clear h1 h2
    have HN : Hid (R1.length = R2.length) := hn
    rw [← hn]
    generalize hm : R1.length = m at *
    clear hn
    go_enter Tryz.func24, Tryz.ntmps24
    go_wp2_with fail
    go_loopw [13] (fun s13 wr => ∃ j : Nat, j ≤ m ∧ s13 = .int .i64 j ∧ Hid (R1.take j = R2.take j) ∧ Same w wr) (fun s13 _ => m - (RowKit.intOf s13).toNat)
    case atStart => exact ⟨0, Nat.zero_le _, rfl, rfl, Same.refl _⟩
    case round =>
      obtain ⟨j, hj, rfl, HT, hS⟩ := hrel
      by_cases hlt : j < m
      · have hj1 : j < R1.length := by omega
        have hj2 : j < R2.length := by have := HN.out; omega
        obtain ⟨g1, cp1, ge1, ce1, e1, x1, r1, _⟩ := H1.out.1.at_ j hj1
        obtain ⟨g2, cp2, ge2, ce2, e2, x2, r2, _⟩ := H1.out.2.at_ j hj2
        obtain ⟨rfl, rfl⟩ : p1 = some ⟨g1, 0, none⟩ ∧ c1 = cp1 := by injection e1 with a b c; exact ⟨a, c⟩
        obtain ⟨rfl, rfl⟩ : p2 = some ⟨g2, 0, none⟩ ∧ c2 = cp2 := by injection e2 with a b c; exact ⟨a, c⟩
        have y1 := (hS.cell ⟨g1, j, none⟩).trans x1
        have y2 := (hS.cell ⟨g2, j, none⟩).trans x2
        have hcx : ∀ q, (convert 34 9 (.slice (some ⟨ge1, 0, none⟩) R1[j].length ce1)).run Tryz.prog (wr.drewN q) = .ok (.string ⟨R1[j].toArray⟩) (wr.drewN q) := fun q => conv_bytes ge1 0 _ ce1 R1[j] _ rfl (fun i v hv => ((same_drewN hS q).cell ⟨ge1, 0 + i, none⟩).trans (r1 i v hv))
        have hcy : ∀ q, (convert 34 9 (.slice (some ⟨ge2, 0, none⟩) R2[j].length ce2)).run Tryz.prog (wr.drewN q) = .ok (.string ⟨R2[j].toArray⟩) (wr.drewN q) := fun q => conv_bytes ge2 0 _ ce2 R2[j] _ rfl (fun i v hv => ((same_drewN hS q).cell ⟨ge2, 0 + i, none⟩).trans (r2 i v hv))
        clear x1 x2 r1 r2 e1 e2
        by_cases he : R1[j] = R2[j]
        · have HN2 : Hid (R1.take (j + 1) = R2.take (j + 1)) := take_eq_succ' hj1 hj2 HT.out he
          rw [he] at y1 hcx
          clear he HT
          generalize R2[j] = r at y1 y2 hcx hcy
          generalize r.length = rl at *
          go_wp2_with fail
          go_quiet (fail)
          all_goals go_wp2_with fail
          all_goals exact ⟨⟨j + 1, by omega, by congr 1, HN2, same_drewN hS _⟩, by simp [RowKit.intOf]; omega⟩
        · have hd : decide (R1 = R2) = false := by
            rw [decide_eq_false_iff_not]
            intro e
            subst e
            exact he rfl
          have HD : Hid (decide (R1 = R2) = false) := hd
          have hne : (R1[j] == R2[j]) = false := by simpa using he
          clear he hd HT
          generalize R1[j] = r1 at y1 hcx hne
          generalize R2[j] = r2 at y2 hcy hne
          generalize r1.length = rl1 at *
          generalize r2.length = rl2 at *
          go_wp2_with fail
          go_quiet (fail)
          all_goals go_wp2_with fail
          all_goals go_ret
          all_goals exact ⟨by rw [HD.out]; rfl, same_drewN hS _⟩
      · have hjn : j = m := by omega
        subst hjn
        have hd : decide (R1 = R2) = true := by
          rw [decide_eq_true_iff]
          have := HT.out
          rw [List.take_of_length_le (by omega), List.take_of_length_le (by have := HN.out; omega)] at this
          exact this
        have HD : Hid (decide (R1 = R2) = true) := hd
        clear hd HT
        go_wp2_with fail
        go_ret
        exact ⟨by rw [HD.out]; rfl, hS⟩
  · have hd : decide (R1 = R2) = false := by
      rw [decide_eq_false_iff_not]
      rintro rfl
      exact hn rfl
    rw [hd]
    have hn' : ((R1.length : Int) != (R2.length : Int)) = true := by simp; omega
    clear h1 h2 hd
    generalize R1.length = m1 at *
    generalize R2.length = m2 at *
    go_enter Tryz.func24, Tryz.ntmps24
    go_wp2_with fail
    go_ret
    exact ⟨rfl, Same.refl _⟩
end Go.Proofs.YtlmdeafmlommeaaGreatDoor
