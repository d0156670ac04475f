import Derived.Test.YteaacodloabdcaaGreatDoorBsT
namespace Go.Proofs.YteaacodloabdcaaGreatDoor
open Go.RowKit Go.Maps

/-- Hits that a slice reads. -/
structure HitsIn (w : World) (a : Option Addr) (m : Nat) (L : List Hit) : Prop where
  len : L.length = m
  ids : ∀ x ∈ L, -9223372036854775808 ≤ x.1 ∧ x.1 ≤ 9223372036854775807
  at_ : m = 0 ∨ ∃ b o, a = some ⟨b, o, none⟩ ∧ b < w.heap.size ∧ ∀ j, j < m → w.cell? ⟨b, o + j * 2, none⟩ = some (.int .i64 (hat L j).1) ∧ w.cell? ⟨b, o + j * 2 + 1, none⟩ = some (.int .i64 (hat L j).2)
theorem HitsIn.below {w w' : World} {a : Option Addr} {m : Nat} {L : List Hit} (h : HitsIn w a m L) (hb : Below w.heap.size w w') : HitsIn w' a m L :=
  { h with
    at_ := by
      rcases h.at_ with h0 | ⟨b, o, e, hl, hc⟩
      · exact Or.inl h0
      · exact Or.inr ⟨b, o, e, Nat.lt_of_lt_of_le hl hb.size, fun j hj => ⟨(hb.cell (p := ⟨b, o + j * 2, none⟩) hl).trans (hc j hj).1, (hb.cell (p := ⟨b, o + j * 2 + 1, none⟩) hl).trans (hc j hj).2⟩⟩ }
theorem HitsR.toIn {w : World} {lo : Nat} {p : Option Addr} {n c : Nat} {W : List Hit} (h : HitsR w lo (.slice p n c) W) (hi : ∀ x ∈ W, -9223372036854775808 ≤ x.1 ∧ x.1 ≤ 9223372036854775807) : HitsIn w p n W := by
  obtain ⟨p', c', e⟩ := h.shape
  injection e with e1 e2 e3
  refine ⟨e2.symm, hi, ?_⟩
  by_cases h0 : W.length = 0
  · exact Or.inl (by omega)
  · obtain ⟨g, c2, e4, _, _, hg, _⟩ := h.at_ 0 (by omega)
    injection e4 with e4 _ _
    refine Or.inr ⟨g, 0, e4, hg, fun j hj => ?_⟩
    obtain ⟨g', c3, e5, _, _, _, a1, a2, _⟩ := h.at_ j (by omega)
    injection e5 with e5 _ _
    rw [e4] at e5
    injection e5 with e5
    injection e5 with e5
    subst e5
    rw [Nat.zero_add]
    exact ⟨a1, a2⟩
theorem putL_mem {k : Nat} {W : List Hit} {x y : Hit} (h : y ∈ (putL k W x).1) : y = x ∨ y ∈ W := by
  unfold putL at h
  split at h
  · exact Or.inr h
  · split at h
    · exact Or.inr h
    · exact List.mem_cons.1 ((ins_perm x W).subset (List.mem_of_mem_take h))
theorem bestOf_mem {k : Nat} {L : List Hit} {y : Hit} (h : y ∈ bestOf k L) : y ∈ L := by
  have key : ∀ (L W : List Hit), y ∈ L.foldl (fun W x => (putL k W x).1) W → y ∈ L ∨ y ∈ W := by
    intro L
    induction L with
    | nil => intro W h; exact Or.inr h
    | cons x r ih =>
      intro W h
      rcases ih _ h with h | h
      · exact Or.inl (List.mem_cons_of_mem _ h)
      · rcases putL_mem h with rfl | h
        · exact Or.inl (List.mem_cons_self ..)
        · exact Or.inr h
  rcases key L [] h with h | h
  · exact h
  · cases h
theorem putL_len1 (k : Nat) (W : List Hit) (x : Hit) : (putL k W x).1.length ≤ W.length + 1 := by
  unfold putL
  split
  · exact Nat.le_succ _
  · split
    · exact Nat.le_succ _
    · show ((ins x W).take k).length ≤ _
      rw [List.length_take, ins_length]; omega
theorem bestOf_len (k : Nat) (L : List Hit) : (bestOf k L).length ≤ L.length := by
  have key : ∀ (L W : List Hit), (L.foldl (fun W x => (putL k W x).1) W).length ≤ W.length + L.length := by
    intro L
    induction L with
    | nil => intro W; simp
    | cons x r ih =>
      intro W
      have h1 := ih (putL k W x).1
      have h2 := putL_len1 k W x
      simp only [List.foldl_cons, List.length_cons]
      omega
  have := key L []
  unfold bestOf
  simpa using this
theorem bestOf_take {k : Nat} {L : List Hit} {j : Nat} (h : j < L.length) : bestOf k (L.take (j + 1)) = (putL k (bestOf k (L.take j)) (hat L j)).1 := by
  rw [List.take_succ_eq_append_getElem h, bestOf_snoc, hat_lt h]
set_option maxRecDepth 100000 in
set_option maxHeartbeats 2000000 in
theorem bof_at {w : World} {a : Option Addr} {m c : Nat} {L : List Hit} (k0 : Int) (hk : k0 ≤ 9223372036854775807) (h : HitsIn w a m L) (hm : m ≤ 1000000) :
    Calls Tryz.prog 28 #[.int .i64 k0, .slice a m c] w fun e w' => ∃ v', e = .returned v' ∧ HitsR w' w.heap.size v' (bestOf k0.toNat L) ∧ Below w.heap.size w w' := by
  have HL : Hid (HitsIn w a m L) := h
  clear h
  have hB0 := bnew_at k0 w
  have hkk : (k0.toNat : Int) ≤ 9223372036854775807 := by omega
  generalize k0.toNat = k at *
  go_enter Tryz.func28, Tryz.ntmps28
  go_wp2_with fail
  refine hB0.mono ?_
  rintro e w1 ⟨bb, mb, rfl, hB1, hb1⟩
  have HI0 : Hid (∃ v, BestW w1 w.heap.size bb mb k v (bestOf k (L.take 0)) ∧ Below w.heap.size w w1) := ⟨_, BestW.new hB1, hb1⟩
  clear hB1 hb1 hB0
  go_wp2_with fail
  go_loopw [12] (fun s12 wr => ∃ j : Nat, j ≤ m ∧ s12 = .int .i64 j ∧ Hid (∃ v, BestW wr w.heap.size bb mb k v (bestOf k (L.take j)) ∧ Below w.heap.size w wr)) (fun s12 _ => m - (RowKit.intOf s12).toNat)
  case atStart => exact ⟨0, Nat.zero_le _, rfl, HI0⟩
  case round =>
    clear HI0
    obtain ⟨j, hj, rfl, HI⟩ := hrel
    obtain ⟨v, hB, hb⟩ := HI.out
    clear HI
    by_cases hlt : j < m
    · have hjL : j < L.length := by have := HL.out.len; omega
      obtain ⟨b, o, rfl, hbl, hc⟩ : ∃ b o, a = some ⟨b, o, none⟩ ∧ b < w.heap.size ∧ ∀ j, j < m → w.cell? ⟨b, o + j * 2, none⟩ = some (.int .i64 (hat L j).1) ∧ w.cell? ⟨b, o + j * 2 + 1, none⟩ = some (.int .i64 (hat L j).2) := by
        rcases HL.out.at_ with h0 | h0
        · omega
        · exact h0
      obtain ⟨d0, d1⟩ := hc j hlt
      have f0 := (hb.cell (p := ⟨b, o + j * 2, none⟩) hbl).trans d0
      have f1 := (hb.cell (p := ⟨b, o + j * 2 + 1, none⟩) hbl).trans d1
      have HX : Hid (bestOf k (L.take (j + 1)) = (putL k (bestOf k (L.take j)) (hat L j)).1) := bestOf_take hjL
      have hid : -9223372036854775808 ≤ (hat L j).1 ∧ (hat L j).1 ≤ 9223372036854775807 := HL.out.ids _ (by rw [hat_lt hjL]; exact List.getElem_mem _)
      obtain ⟨x1, x2, hx⟩ : ∃ x1 x2, hat L j = (x1, x2) := ⟨_, _, rfl⟩
      rw [hx] at f0 f1 HX hid
      have hbA : Below wr.heap.size wr (wr.alloc (.cells #[.int .i64 x1, .int .i64 x2] 25)) := (Below.refl _ _).alloc (Nat.le_refl _) _
      have HP : Hid (Calls Tryz.prog 25 #[.pointer (some ⟨bb, 0, none⟩), .agg #[.int .i64 x1, .int .i64 x2]] (wr.alloc (.cells #[.int .i64 x1, .int .i64 x2] 25)) fun e w' => (∃ q, e = .returned (.bool q)) ∧ Hid (∃ v, BestW w' w.heap.size bb mb k v (bestOf k (L.take (j + 1))) ∧ Below w.heap.size w w')) := by
        have hB2 := hB.below hbA
        have hb2 := hb.trans (hbA.mono hb.size)
        have hln : (bestOf k (L.take j)).length < 1000000 := by
          have := bestOf_len k (L.take j)
          rw [List.length_take] at this
          omega
        have hB2c := hB2
        obtain ⟨H, hBA, _⟩ := hB2c
        refine (bput_at hB2 hkk x1 x2 hid hln hb2.size).mono ?_
        rintro e w' ⟨rfl, ⟨v', hB3, _⟩, hk3⟩
        refine ⟨⟨_, rfl⟩, v', by rw [HX.out]; exact hB3, hb2.trans (hk3.below hb2.size (fun i e => ?_))⟩
        rcases e with e | e | e
        · have := hBA.l1; omega
        · have := hBA.l2; omega
        · exact (hBA.row.ow i e).1
      clear hB hb hc d0 d1 hx hid hbA HX
      go_wp2_with fail
      refine HP.out.mono ?_
      rintro e w4 ⟨⟨q, rfl⟩, HN⟩
      clear HP
      go_wp2_with fail
      exact ⟨⟨j + 1, hlt, rfl, HN⟩, by simp [RowKit.intOf]; omega⟩
    · obtain rfl : j = m := by omega
      have hT : L.take j = L := List.take_of_length_le (by rw [HL.out.len]; exact Nat.le_refl _)
      rw [hT] at hB
      have HC : Hid (Calls Tryz.prog 27 #[.pointer (some ⟨bb, 0, none⟩)] wr fun e w' => ∃ v', e = .returned v' ∧ Hid (HitsR w' w.heap.size v' (bestOf k L) ∧ Below w.heap.size w w')) := by
        refine (ball_at hB).mono ?_
        rintro e w' ⟨v', rfl, hR, hb5⟩
        refine ⟨v', rfl, ?_, hb.trans (hb5.mono hb.size)⟩
        refine ⟨hR.1, ?_⟩
        rcases hR.2 with q | ⟨g, cap, cur, hv, hg, rest⟩
        · exact .inl q
        · exact .inr ⟨g, cap, cur, hv, Nat.le_trans hb.size hg, rest⟩
      clear hB hb hT
      go_wp2_with fail
      refine HC.out.mono ?_
      rintro e w5 ⟨v', rfl, HR⟩
      clear HC
      go_wp2_with fail
      go_ret
      exact ⟨_, rfl, HR.out.1, HR.out.2⟩
end Go.Proofs.YteaacodloabdcaaGreatDoor
