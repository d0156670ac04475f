import Derived.Test.YtmdjjnjhjojimaaDoorBinK
namespace Go.Proofs.YtmdjjnjhjojimaaDoor
open Go.RowKit Go.Maps

/-- Text. -/
theorem rtext_any {w : World} {rb : Nat} {s : List UInt8} {a : Option Addr} {c : Nat} {err : Int} (h : RdAt w rb s a c err) (most : Int) :
    Calls Tryd.prog 35 #[.pointer (some ⟨rb, 0, none⟩), .int .i64 most] w fun e w' => ∃ a' c', e = .returned (.string ⟨(rdText s err most).1.toArray⟩) ∧ RdAt w' rb (rdText s err most).2.1 a' c' (rdText s err most).2.2 ∧ Keeps (fun i => i = rb) w w' := by
  have H : IntC w rb (rdInt s err).1 (rdInt s err).2.1 (rdInt s err).2.2 := rint_any h
  unfold rdText
  generalize rdInt s err = q at H ⊢
  obtain ⟨n, r, e1⟩ := q
  simp only at H ⊢
  by_cases he : e1 = 0
  · subst he
    rw [if_pos rfl]
    by_cases hb : n < 0 ∨ most < n ∨ (r.length : Int) < n
    · rw [if_pos hb]
      exact rtext_bad n most r H hb
    · rw [if_neg hb]
      obtain ⟨k, rfl⟩ : ∃ k : Nat, n = k := ⟨n.toNat, by omega⟩
      rw [Int.toNat_natCast]
      exact rtext_yes k most r H (by omega) (by omega)
  · rw [if_neg he]
    exact rtext_err n most r e1 H (by simpa using he)

theorem rtext_nil (most : Int) (w : World) : Calls Tryd.prog 35 #[.pointer none, .int .i64 most] w fun e w' => e = .returned (.string ⟨#[]⟩) ∧ w' = w := by
  go_enter Tryd.func35, Tryd.ntmps35
  go_wp2_with (first
    | (go_at_call 33; refine (rint_nil _).mono ?_; rintro e w' ⟨rfl, hw⟩; obtain rfl := hw.symm)
    | (go_at_call 34; refine (rerr_nil _).mono ?_; rintro e w' ⟨rfl, hw⟩; obtain rfl := hw.symm))
  go_ret
  exact ⟨rfl, rfl⟩

theorem clone52' (b o n c : Nat) (s : List UInt8) (w : World) (hs : s.length = n) (hbig : n ≤ 1000000000) (hc : w.rangeAt b o (bytesV s)) :
    Calls Tryd.prog 52 #[.slice (some ⟨b, o, none⟩) n c] w fun e w' => ∃ g cap, e = .returned (.slice (some ⟨g, 0, none⟩) n cap) ∧ w.heap.size ≤ g ∧ w'.rangeAt g 0 (bytesV s) ∧ n ≤ cap ∧ g < w'.heap.size ∧ Below w.heap.size w w' := by
  refine (clone52 b o n c s w hs (by omega) hc).mono ?_
  rintro e w' ⟨v, rfl, hrow, hne, hb⟩
  obtain ⟨hl, ⟨rfl, h0⟩ | ⟨g, cap, cur, rfl, hg, hblk, hnc, hcm, hcs, hcur⟩⟩ := hrow
  · exact absurd rfl hne
  · refine ⟨g, cap, rfl, hg, ?_, hnc, (Array.getElem?_eq_some_iff.1 hblk).1, hb⟩
    intro j v hv
    rw [cell_of_row _ _ (0 + j) cur 5 (0, 0) hblk]
    rw [← hcur, List.getElem?_take] at hv
    split at hv
    · simpa using hv
    · cases hv

/-- NewReader of bytes. -/
theorem newreader_some (b o c : Nat) (s : List UInt8) (w : World) (hbig : s.length ≤ 1000000000) (hr : w.rangeAt b o (bytesV s)) :
    Calls Tryd.prog 32 #[.slice (some ⟨b, o, none⟩) s.length c] w fun e w' => ∃ rb a' c', e = .returned (.pointer (some ⟨rb, 0, none⟩)) ∧ w.heap.size ≤ rb ∧ RdAt w' rb s a' c' 0 ∧ Below w.heap.size w w' := by
  go_enter Tryd.func32, Tryd.ntmps32
  go_wp2_with (go_at_call 52; refine (clone52' b o s.length c s w rfl hbig hr).mono ?_; rintro e w1 ⟨g, cap, rfl, hg, hr1, hcap, hgl, hb1⟩)
  go_ret
  refine ⟨w1.heap.size, some ⟨g, 0, none⟩, cap, rfl, hb1.size, ?_, hb1.alloc hb1.size _⟩
  refine ⟨by simp, by simp, fun o => by simp, ?_, hcap, hbig⟩
  exact Or.inr ⟨g, 0, rfl, by omega, World.rangeAt_alloc hr1 _⟩
theorem newreader_nil (c : Nat) (w : World) :
    Calls Tryd.prog 32 #[.slice none 0 c] w fun e w' => ∃ rb a' c', e = .returned (.pointer (some ⟨rb, 0, none⟩)) ∧ w.heap.size ≤ rb ∧ RdAt w' rb [] a' c' 0 ∧ Below w.heap.size w w' := by
  go_enter Tryd.func32, Tryd.ntmps32
  go_wp2_with (go_at_call 52; refine (clone52_nil 0 c w).mono ?_; rintro e w1 ⟨rfl, hw⟩; obtain rfl := hw.symm)
  go_ret
  refine ⟨w.heap.size, none, 0, rfl, Nat.le_refl _, ?_, (Below.refl _ _).alloc (Nat.le_refl _) _⟩
  exact ⟨by simp, by simp, fun o => by simp, Or.inl ⟨rfl, rfl⟩, by simp, by simp⟩

/-- Bytes: a copy of all that was written; nil of nothing. -/
theorem wbytes_any {w : World} {wb base : Nat} {s : List UInt8} {a : Option Addr} {c : Nat} (h : WrAt w wb base s a c) (hbig : s.length ≤ 1000000000) :
    Calls Tryd.prog 31 #[.pointer (some ⟨wb, 0, none⟩)] w fun e w' => Below w.heap.size w w' ∧ ((e = .returned (.slice none 0 0) ∧ s = []) ∨ ∃ g cap, e = .returned (.slice (some ⟨g, 0, none⟩) s.length cap) ∧ w.heap.size ≤ g ∧ w'.rangeAt g 0 (bytesV s) ∧ s.length ≤ cap ∧ g < w'.heap.size) := by
  have hrow := h.row
  have c0 := h.c0
  obtain ⟨hl, ⟨e, h0⟩ | ⟨g, cap, cur, e, hg, hblk, hnc, hcm, hcs, hcur⟩⟩ := hrow
  · injection e with e1 e2 e3
    subst e1 e3
    have hs : s = [] := List.eq_nil_of_length_eq_zero h0
    subst hs
    go_enter Tryd.func31, Tryd.ntmps31
    go_wp2_with (go_at_call 52; refine (clone52_nil 0 0 w).mono ?_; rintro e w1 ⟨rfl, hw⟩; obtain rfl := hw.symm)
    go_ret
    exact ⟨Below.refl _ _, Or.inl ⟨rfl, trivial⟩⟩
  · injection e with e1 e2 e3
    subst e1 e3
    have hr : w.rangeAt g 0 (bytesV s) := by
      intro j v hv
      rw [cell_of_row _ _ (0 + j) cur 5 (0, 0) hblk]
      rw [← hcur, List.getElem?_take] at hv
      split at hv
      · simpa using hv
      · cases hv
    clear hcur hcs hcm hnc hl
    go_enter Tryd.func31, Tryd.ntmps31
    go_wp2_with (go_at_call 52; refine (clone52' g 0 s.length c s w rfl hbig hr).mono ?_; rintro e w1 ⟨g1, cap1, rfl, hg1, hr1, hcap1, hgl1, hb1⟩)
    go_ret
    exact ⟨hb1, Or.inr ⟨g1, cap1, rfl, hg1, hr1, hcap1, hgl1⟩⟩
theorem wbytes_nil (w : World) : Calls Tryd.prog 31 #[.pointer none] w fun e w' => e = .returned (.slice none 0 0) ∧ w' = w := by
  go_enter Tryd.func31, Tryd.ntmps31
  go_wp2
  go_ret
  exact ⟨rfl, rfl⟩
end Go.Proofs.YtmdjjnjhjojimaaDoor
