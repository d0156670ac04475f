import Derived.Test.YtmdjjnjhjojimaaDoorBallD
namespace Go.Proofs.YtmdjjnjhjojimaaDoor
open Go.RowKit Go.Maps

/-- Bytes that a slice of s.length reads, wherever an empty one lies. -/
structure BAny (w : World) (L : Nat) (a : Option Addr) (c : Nat) (s : List UInt8) : Prop where
  hc : s.length ≤ c
  at_ : s = [] ∨ ∃ b o, a = some ⟨b, o, none⟩ ∧ b < L ∧ w.rangeAt b o (bytesV s)
theorem BAny.below {w w' : World} {L : Nat} {a : Option Addr} {c : Nat} {s : List UInt8} (h : BAny w L a c s) (hb : Below L w w') : BAny w' L a c s := {
  hc := h.hc
  at_ := by
    rcases h.at_ with h0 | ⟨b, o, e, hl, hr⟩
    · exact Or.inl h0
    · exact Or.inr ⟨b, o, e, hl, fun j v hv => (hb.cell (p := ⟨b, o + j, none⟩) hl).trans (hr j v hv)⟩ }
theorem BytesAt.any {w : World} {L : Nat} {a : Option Addr} {c : Nat} {s : List UInt8} (h : BytesAt w L a c s) : BAny w L a c s := ⟨h.hc, by
  rcases h.at_ with ⟨_, e⟩ | h1
  · exact Or.inl e
  · exact Or.inr h1⟩
theorem BAny.head {w : World} {L : Nat} {a : Option Addr} {c : Nat} {s : List UInt8} (h : BAny w L a c s) (k : Nat) : BAny w L a c (s.take k) := ⟨by have := h.hc; rw [List.length_take]; omega, by
  rcases h.at_ with rfl | ⟨b, o, e, hl, hr⟩
  · exact Or.inl (by simp)
  · refine Or.inr ⟨b, o, e, hl, fun j v hv => hr j v ?_⟩
    unfold bytesV at hv ⊢
    rw [List.map_take, List.getElem?_take] at hv
    split at hv
    · exact hv
    · cases hv⟩
/-- Where 'x[k:]' lies. -/
def from_ (a : Option Addr) (c k : Nat) : Option Addr := if c = k then a else a.map (·.add k)
theorem BAny.from_ {w : World} {L : Nat} {a : Option Addr} {c : Nat} {s : List UInt8} (h : BAny w L a c s) (k : Nat) (hk : k ≤ s.length) : BAny w L (from_ a c k) (c - k) (s.drop k) := ⟨by have := h.hc; rw [List.length_drop]; omega, by
  rcases h.at_ with rfl | ⟨b, o, rfl, hl, hr⟩
  · exact Or.inl (by simp)
  · by_cases hck : c = k
    · refine Or.inl (List.drop_of_length_le ?_)
      have := h.hc; omega
    · refine Or.inr ⟨b, o + k, ?_, hl, fun j v hv => ?_⟩
      · unfold Go.Proofs.YtmdjjnjhjojimaaDoor.from_
        rw [if_neg hck]
        simp [Addr.add_mid]
      · have h1 := hr (k + j) v (by
          unfold bytesV at hv ⊢
          rw [List.map_drop, List.getElem?_drop] at hv
          exact hv)
        rw [Nat.add_assoc]; exact h1⟩
set_option maxHeartbeats 1000000 in
set_option maxRecDepth 100000 in
theorem clone52_zero (p : Addr) (c : Nat) (w : World) :
    Calls Tryd.prog 52 #[.slice (some p) 0 c] w fun e w' => ∃ g cap, e = .returned (.slice (some ⟨g, 0, none⟩) 0 cap) ∧ w.heap.size ≤ g ∧ g < w'.heap.size ∧ Below w.heap.size w w' := by
  obtain ⟨i0, hi, hz0, hz1, hz2⟩ := info_parts info5
  have q33 : ∀ (w : World) (a : Option Addr) (n c n' c' : Nat), (binOp .eql 33 (.slice a n c) (.slice none n' c')).run Tryd.prog w = .ok (.bool a.isNone) w := fun w a n c n' c' => Lib.run_eql_slice_nil w _ _ a n c n' c' Tryd.underlying33
  go_enter Tryd.func52, Tryd.ntmps52
  go_wp2_with (at_builtin; refine wpList_append_own _ rfl _ _ 33 rfl w.heap.size 5 i0 (.int .u8 0) 1 1 Tryd.underlying33 hi hz0 hz1 hz2 rfl (by decide) _ _ _ rfl (World.ownsRow_made w #[] 0 (Nat.le_refl _) (Nat.zero_le _) rfl) p 0 c [] rfl ?qc1 ?qc2 ?qc3 ?qc4 ?qc5 ?qc6 ?_)
  case qc1 => simp
  case qc2 => intro j u hj; simp at hj
  case qc3 => intro u hu; cases hu
  case qc4 => unfold maxLen; omega
  case qc5 => omega
  case qc6 => simp
  intro v' w1 hown hgrow hnil
  obtain ⟨g, cap, rfl, hg1, hg2⟩ : ∃ g cap, v' = .slice (some ⟨g, 0, none⟩) 0 cap ∧ w.heap.size ≤ g ∧ g < w1.heap.size := by
    have hne : v' ≠ .slice none 0 0 := by first | exact hnil | (intro e; exact absurd (hnil.1 e).1 (by simp))
    obtain ⟨_, ⟨e, _⟩ | ⟨g, cap, cur, e, h1, h2, _⟩⟩ := hown
    · exact absurd e hne
    · exact ⟨g, cap, e, h1, (Array.getElem?_eq_some_iff.1 h2).1⟩
  go_wp2
  go_ret
  exact ⟨g, cap, rfl, hg1, hg2, ((Below.refl _ w).alloc (Nat.le_refl _) _).grown hgrow (by simp) (by intro k hk; simp [Value.ownBlock] at hk; omega)⟩
theorem newreader_zero (p : Addr) (c : Nat) (w : World) :
    Calls Tryd.prog 32 #[.slice (some p) 0 c] w fun e w' => ∃ rb a' c', e = .returned (.pointer (some ⟨rb, 0, none⟩)) ∧ w.heap.size ≤ rb ∧ RdAt w' rb [] a' c' 0 ∧ Below w.heap.size w w' := by
  go_enter Tryd.func32, Tryd.ntmps32
  go_wp2_with (go_at_call 52; refine (clone52_zero p c w).mono ?_; rintro e w1 ⟨g, cap, rfl, hg, hgl, hb1⟩)
  go_ret
  refine ⟨w1.heap.size, some ⟨g, 0, none⟩, cap, rfl, hb1.size, ?_, hb1.alloc hb1.size _⟩
  exact ⟨by simp, by simp, fun o => by simp, Or.inr ⟨g, 0, rfl, by omega, fun j v hv => by simp [bytesV] at hv⟩, by simp, by simp⟩
theorem newreader_any {w : World} {L : Nat} {a : Option Addr} {c : Nat} {s : List UInt8} (h : BAny w L a c s) (hbig : s.length ≤ 1000000000) :
    Calls Tryd.prog 32 #[.slice a s.length c] w fun e w' => ∃ rb a' c', e = .returned (.pointer (some ⟨rb, 0, none⟩)) ∧ w.heap.size ≤ rb ∧ RdAt w' rb s a' c' 0 ∧ Below w.heap.size w w' := by
  rcases h.at_ with rfl | ⟨b, o, rfl, _, hr⟩
  · cases a with
    | none => exact newreader_nil c w
    | some p => exact newreader_zero p c w
  · exact newreader_some b o c s w hbig hr
/-- GetInt, of bytes wherever. -/
theorem getint_b {w : World} {L : Nat} {a : Option Addr} {c : Nat} {s : List UInt8} (h : BAny w L a c s) (hl : s.length ≤ 1000000) :
    Calls Tryd.prog 37 #[.slice a s.length c] w fun e w' => e = .returned (.tuple #[.int .i64 (getI s).1, .int .i64 ((getI s).2 : Int)]) ∧ Below w.heap.size w w' := by
  rcases h.at_ with rfl | ⟨b, o, rfl, _, hr⟩
  · refine (getint_nil a c w).mono ?_
    rintro e w' ⟨rfl, rfl⟩
    exact ⟨rfl, Below.refl _ _⟩
  · exact getint_any b o c s w hr hl
theorem getI_bound (s : List UInt8) : -9223372036854775808 ≤ (getI s).1 ∧ (getI s).1 ≤ 9223372036854775807 := by
  unfold getI
  cases hc : cutS s with
  | none => simp
  | some p =>
    obtain ⟨n, r⟩ := p
    simp only
    cases s with
    | nil => simp [cutS] at hc
    | cons b t =>
      rw [cutS_cons] at hc
      split at hc
      · cases hc
      · split at hc
        · simp only [Option.some.injEq, Prod.mk.injEq] at hc
          rw [← hc.1]; exact joinB_bound _
        · cases hc
theorem conv_zero (a : Option Addr) (c : Nat) (W : World) : (convert 33 9 (.slice a 0 c)).run Tryd.prog W = .ok (.string ⟨#[]⟩) W := by
  cases a with
  | none => kernel_rfl
  | some p => kernel_rfl
theorem BAny.conv {w : World} {L : Nat} {a : Option Addr} {c : Nat} {s : List UInt8} (h : BAny w L a c s) : (convert 33 9 (.slice a s.length c)).run Tryd.prog w = .ok (.string ⟨s.toArray⟩) w := by
  rcases h.at_ with rfl | ⟨b, o, rfl, _, hr⟩
  · exact conv_zero a c w
  · exact conv_bytes b o s.length c s w rfl hr
theorem getI_none {s : List UInt8} (h : (getI s).2 = 0) : cutS s = none := by
  unfold getI at h
  cases hc : cutS s with
  | none => rfl
  | some p =>
    obtain ⟨n, r⟩ := p
    rw [hc] at h
    exfalso
    have hl := cutS_len s r n hc
    cases s with
    | nil => simp [cutS] at hc
    | cons b t =>
      rw [cutS_cons] at hc
      split at hc
      · cases hc
      · split at hc
        · simp only [Option.some.injEq, Prod.mk.injEq] at hc
          rw [← hc.2] at h
          simp at h
          omega
        · cases hc
/-- A number that is read: what is behind it. -/
theorem getI_some {s : List UInt8} (h : (getI s).2 ≠ 0) : cutS s = some ((getI s).1, s.drop (getI s).2) ∧ (getI s).2 ≤ s.length := by
  unfold getI at h ⊢
  cases hc : cutS s with
  | none => rw [hc] at h; exact absurd rfl h
  | some p =>
    obtain ⟨n, r⟩ := p
    have hl := cutS_len s r n hc
    simp only
    refine ⟨?_, by omega⟩
    cases s with
    | nil => simp [cutS] at hc
    | cons b t =>
      rw [cutS_cons] at hc
      split at hc
      · cases hc
      · split at hc
        · simp only [Option.some.injEq, Prod.mk.injEq] at hc
          rw [← hc.2]
          simp only [List.length_cons, List.length_drop]
          congr 2
          rw [show t.length + 1 - (t.length - b.toNat) = b.toNat + 1 by omega]
          rfl
        · cases hc
theorem rtext_fail {w : World} {rb : Nat} {s : List UInt8} {a : Option Addr} {c : Nat} {err : Int} (h : RdAt w rb s a c err) (hT : rdText s err 10 = ([], [], 1)) :
    Calls Tryd.prog 35 #[.pointer (some ⟨rb, 0, none⟩), .int .i64 10] w fun e w' => ∃ a' c', e = .returned (.string ⟨#[]⟩) ∧ RdAt w' rb [] a' c' 1 ∧ Keeps (fun i => i = rb) w w' := by
  have := rtext_any h 10
  rw [hT] at this
  exact this
theorem rtext_good {w : World} {rb : Nat} {s u r : List UInt8} {a : Option Addr} {c : Nat} {err : Int} (h : RdAt w rb s a c err) (hT : rdText s err 10 = (u, r, 0)) :
    Calls Tryd.prog 35 #[.pointer (some ⟨rb, 0, none⟩), .int .i64 10] w fun e w' => ∃ a' c', e = .returned (.string ⟨u.toArray⟩) ∧ RdAt w' rb r a' c' 0 ∧ Keeps (fun i => i = rb) w w' := by
  have := rtext_any h 10
  rw [hT] at this
  exact this
theorem rint_of {w : World} {rb : Nat} {s r : List UInt8} {n e1 : Int} {a : Option Addr} {c : Nat} {err : Int} (h : RdAt w rb s a c err) (hI : rdInt s err = (n, r, e1)) :
    Calls Tryd.prog 33 #[.pointer (some ⟨rb, 0, none⟩)] w fun e w' => ∃ a' c', e = .returned (.int .i64 n) ∧ RdAt w' rb r a' c' e1 ∧ Keeps (fun i => i = rb) w w' := by
  have := rint_any h
  rw [hI] at this
  exact this.mono (fun e w' ⟨a', c', x, y, z, _⟩ => ⟨a', c', x, y, z⟩)
end Go.Proofs.YtmdjjnjhjojimaaDoor
