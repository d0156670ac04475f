import Derived.Test.YtmdjjnjhjojimaaDoorBallB
import Derived.Test.YtmdjjnjhjojimaaDoorTextA
namespace Go.Proofs.YtmdjjnjhjojimaaDoor
open Go.RowKit Go.Maps

/-- Bytes that a slice of s.length reads. -/
structure BytesAt (w : World) (L : Nat) (a : Option Addr) (c : Nat) (s : List UInt8) : Prop where
  hc : s.length ≤ c
  at_ : (a = none ∧ s = []) ∨ ∃ b o, a = some ⟨b, o, none⟩ ∧ b < L ∧ w.rangeAt b o (bytesV s)
theorem BytesAt.below {w w' : World} {L : Nat} {a : Option Addr} {c : Nat} {s : List UInt8} (h : BytesAt w L a c s) (hb : Below L w w') : BytesAt w' L a c s := {
  hc := h.hc
  at_ := by
    rcases h.at_ with h0 | ⟨b, o, e, hl, hr⟩
    · exact Or.inl h0
    · exact Or.inr ⟨b, o, e, hl, fun j v hv => (hb.cell (p := ⟨b, o + j, none⟩) hl).trans (hr j v hv)⟩ }
theorem conv_nil (W : World) (c : Nat) : (convert 33 9 (.slice none 0 c)).run Tryd.prog W = .ok (.string ⟨#[]⟩) W := by kernel_rfl
theorem BytesAt.conv {w : World} {L : Nat} {a : Option Addr} {c : Nat} {s : List UInt8} (h : BytesAt w L a c s) : (convert 33 9 (.slice a s.length c)).run Tryd.prog w = .ok (.string ⟨s.toArray⟩) w := by
  rcases h.at_ with ⟨rfl, rfl⟩ | ⟨b, o, rfl, _, hr⟩
  · exact conv_nil w c
  · exact conv_bytes b o s.length c s w rfl hr
theorem conv_row {w : World} {base : Nat} {sl : Value} {s : List UInt8} (h : w.ownsRow base 5 1 sl s.length (bytesV s)) : (convert 33 9 sl).run Tryd.prog w = .ok (.string ⟨s.toArray⟩) w := by
  have h' := h
  obtain ⟨_, ⟨rfl, h0⟩ | ⟨g, cap, cur, rfl, _, hblk, _, _, _, hcur⟩⟩ := h
  · have : s = [] := List.eq_nil_of_length_eq_zero h0
    subst this
    exact conv_nil w 0
  · refine conv_bytes g 0 s.length cap s w rfl (fun j v hv => ?_)
    have h9 := row_cell h' hv
    simpa using h9
theorem clone52c (b o n c : Nat) (s : List UInt8) (w : World) (hs : s.length = n) (hbig : n ≤ 1000000000) (hc : w.rangeAt b o (bytesV s)) :
    Calls Tryd.prog 52 #[.slice (some ⟨b, o, none⟩) n c] w fun e w' => ∃ g cap, e = .returned (.slice (some ⟨g, 0, none⟩) n cap) ∧ w.heap.size ≤ g ∧ w'.rangeAt g 0 (bytesV s) ∧ n ≤ cap ∧ g < w'.heap.size ∧ Below w.heap.size w w' ∧ cap ≤ 9223372036854775807 := by
  refine (clone52 b o n c s w hs (by omega) hc).mono ?_
  rintro e w' ⟨v, rfl, hrow, hne, hb⟩
  obtain ⟨hl, ⟨rfl, h0⟩ | ⟨g, cap, cur, rfl, hg, hblk, hnc, hcm, hcs, hcur⟩⟩ := hrow
  · exact absurd rfl hne
  · refine ⟨g, cap, rfl, hg, ?_, hnc, (Array.getElem?_eq_some_iff.1 hblk).1, hb, by unfold maxLen at hcm; omega⟩
    intro j v hv
    rw [cell_of_row _ _ (0 + j) cur 5 (0, 0) hblk]
    rw [← hcur, List.getElem?_take] at hv
    split at hv
    · simpa using hv
    · cases hv

/-- Bytes: a copy of all that was written; nil of nothing. -/
theorem wbytes_cap {w : World} {wb base : Nat} {s : List UInt8} {a : Option Addr} {c : Nat} (h : WrAt w wb base s a c) (hbig : s.length ≤ 1000000000) :
    Calls Tryd.prog 31 #[.pointer (some ⟨wb, 0, none⟩)] w fun e w' => Below w.heap.size w w' ∧ ((e = .returned (.slice none 0 0) ∧ s = []) ∨ ∃ g cap, e = .returned (.slice (some ⟨g, 0, none⟩) s.length cap) ∧ w.heap.size ≤ g ∧ w'.rangeAt g 0 (bytesV s) ∧ s.length ≤ cap ∧ g < w'.heap.size ∧ cap ≤ 9223372036854775807) := by
  have hrow := h.row
  have c0 := h.c0
  obtain ⟨hl, ⟨e, h0⟩ | ⟨g, cap, cur, e, hg, hblk, hnc, hcm, hcs, hcur⟩⟩ := hrow
  · injection e with e1 e2 e3
    subst e1 e3
    have hs : s = [] := List.eq_nil_of_length_eq_zero h0
    subst hs
    go_enter Tryd.func31, Tryd.ntmps31
    go_wp2_with (go_at_call 52; refine (clone52_nil 0 0 w).mono ?_; rintro e w1 ⟨rfl, hw⟩; obtain rfl := hw.symm)
    go_ret
    exact ⟨Below.refl _ _, Or.inl ⟨rfl, trivial⟩⟩
  · injection e with e1 e2 e3
    subst e1 e3
    have hr : w.rangeAt g 0 (bytesV s) := by
      intro j v hv
      rw [cell_of_row _ _ (0 + j) cur 5 (0, 0) hblk]
      rw [← hcur, List.getElem?_take] at hv
      split at hv
      · simpa using hv
      · cases hv
    clear hcur hcs hcm hnc hl
    go_enter Tryd.func31, Tryd.ntmps31
    go_wp2_with (go_at_call 52; refine (clone52c g 0 s.length c s w rfl hbig hr).mono ?_; rintro e w1 ⟨g1, cap1, rfl, hg1, hr1, hcap1, hgl1, hb1, hcm1⟩)
    go_ret
    exact ⟨hb1, Or.inr ⟨g1, cap1, rfl, hg1, hr1, hcap1, hgl1, hcm1⟩⟩
/-- Writer.Bytes. -/
theorem wbytes_b {w : World} {wb base : Nat} {s : List UInt8} {a : Option Addr} {c : Nat} (h : WrAt w wb base s a c) (hbig : s.length ≤ 1000000000) :
    Calls Tryd.prog 31 #[.pointer (some ⟨wb, 0, none⟩)] w fun e w' => ∃ ba bc, e = .returned (.slice ba s.length bc) ∧ BytesAt w' w'.heap.size ba bc s ∧ Below w.heap.size w w' ∧ bc ≤ 9223372036854775807 := by
  refine (wbytes_cap h hbig).mono ?_
  rintro e w' ⟨hb, ⟨rfl, rfl⟩ | ⟨g, cap, rfl, h1, h2, h3, h4, h5⟩⟩
  · exact ⟨none, 0, rfl, ⟨by simp, Or.inl ⟨rfl, rfl⟩⟩, hb, by omega⟩
  · exact ⟨some ⟨g, 0, none⟩, cap, rfl, ⟨h3, Or.inr ⟨g, 0, rfl, h4, h2⟩⟩, hb, h5⟩
/-- NewReader. -/
theorem newreader_b {w : World} {L : Nat} {a : Option Addr} {c : Nat} {s : List UInt8} (h : BytesAt w L a c s) (hbig : s.length ≤ 1000000000) :
    Calls Tryd.prog 32 #[.slice a s.length c] w fun e w' => ∃ rb a' c', e = .returned (.pointer (some ⟨rb, 0, none⟩)) ∧ w.heap.size ≤ rb ∧ RdAt w' rb s a' c' 0 ∧ Below w.heap.size w w' := by
  rcases h.at_ with ⟨rfl, rfl⟩ | ⟨b, o, rfl, _, hr⟩
  · exact newreader_nil c w
  · exact newreader_some b o c s w hbig hr
theorem RdAt.below {w w' : World} {rb : Nat} {s : List UInt8} {a : Option Addr} {c : Nat} {err : Int} (h : RdAt w rb s a c err) (hb : Below w.heap.size w w') : RdAt w' rb s a c err := {
  c0 := (hb.cell (p := ⟨rb, 0, none⟩) h.lt).trans h.c0
  c1 := (hb.cell (p := ⟨rb, 1, none⟩) h.lt).trans h.c1
  f := fun o => (hb.frozen (p := ⟨rb, o, none⟩) h.lt).trans (h.f o)
  sh := by
    rcases h.sh with h0 | ⟨g, o, e, hne, hr⟩
    · exact Or.inl h0
    · exact Or.inr ⟨g, o, e, hne, fun j v hv => (hb.cell (p := ⟨g, o + j, none⟩) (World.block_lt_of_cell? _ _ (hr j v hv))).trans (hr j v hv)⟩
  hc := h.hc
  hl := h.hl }
theorem RdAt.drewN {w : World} {rb : Nat} {s : List UInt8} {a : Option Addr} {c : Nat} {err : Int} (h : RdAt w rb s a c err) (n : Nat) : RdAt (w.drewN n) rb s a c err := h.below ⟨rfl, rfl, rfl, Nat.le_refl _, fun _ _ => rfl⟩
/-- Reading a number that stands ahead. -/
theorem rint_next {w : World} {rb : Nat} {a : Option Addr} {c : Nat} {n : Int} {r : List UInt8} (h : RdAt w rb (encInt n ++ r) a c 0) (h0 : -9223372036854775808 ≤ n) (h1 : n ≤ 9223372036854775807) :
    Calls Tryd.prog 33 #[.pointer (some ⟨rb, 0, none⟩)] w fun e w' => ∃ a' c', e = .returned (.int .i64 n) ∧ RdAt w' rb r a' c' 0 ∧ Keeps (fun i => i = rb) w w' := by
  have := rint_any h
  rw [rdInt_enc n r h0 h1] at this
  exact this.mono (fun e w' ⟨a', c', x, y, z, _⟩ => ⟨a', c', x, y, z⟩)
/-- Reading a text that stands ahead. -/
theorem rtext_next {w : World} {rb : Nat} {a : Option Addr} {c : Nat} {t : ByteArray} {r : List UInt8} (h : RdAt w rb (encT t ++ r) a c 0) :
    Calls Tryd.prog 35 #[.pointer (some ⟨rb, 0, none⟩), .int .i64 30] w fun e w' => ∃ a' c', e = .returned (.string (cut30 t)) ∧ RdAt w' rb r a' c' 0 ∧ Keeps (fun i => i = rb) w w' := by
  have hc := cut30_size t
  have h1 := rtext_any h 30
  have e1 : encT t ++ r = encInt ((cut30 t).data.toList.length : Int) ++ ((cut30 t).data.toList ++ r) := by
    unfold encT
    rw [List.append_assoc]
    simp
  have hl : (cut30 t).data.toList.length = (cut30 t).size := by simp
  rw [e1, rdText_enc _ _ 30 (by omega), if_neg (by omega)] at h1
  rw [show (⟨(cut30 t).data.toList.toArray⟩ : ByteArray) = cut30 t from by simp] at h1
  exact h1.mono (fun e w' ⟨a', c', x, y, z⟩ => ⟨a', c', x, y, z⟩)
end Go.Proofs.YtmdjjnjhjojimaaDoor
