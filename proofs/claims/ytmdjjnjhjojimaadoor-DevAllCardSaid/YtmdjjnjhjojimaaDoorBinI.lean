import Derived.Test.YtmdjjnjhjojimaaDoorBinF
import Derived.Laws.IdiomStrings
import Derived.Lib.BufferRead
namespace Go.Proofs.YtmdjjnjhjojimaaDoor
open Go.RowKit Go.Maps

theorem RdAt.stored {w w1 : World} {rb : Nat} {s t : List UInt8} {a : Option Addr} {c g o l c' : Nat} {err : Int} (h : RdAt w rb s a c err) (hs : Same w w1) (hg : g ≠ rb) (hl : l = t.length) (hr : w.rangeAt g o (bytesV t)) (hc : t.length ≤ c') (ht : t.length ≤ 1000000000) :
    RdAt (w1.setCell ⟨rb, 0, none⟩ (.slice (some ⟨g, o, none⟩) l c')) rb t (some ⟨g, o, none⟩) c' err ∧ Keeps (fun i => i = rb) w (w1.setCell ⟨rb, 0, none⟩ (.slice (some ⟨g, o, none⟩) l c')) := by
  subst hl
  have h1 := h.same hs
  have hk : Keeps (fun i => i = rb) w1 (w1.setCell ⟨rb, 0, none⟩ (.slice (some ⟨g, o, none⟩) t.length c')) := (Keeps.refl (fun i => i = rb) w1).setCell (p := ⟨rb, 0, none⟩) rfl _
  refine ⟨⟨?_, ?_, fun o => ?_, Or.inr ⟨g, o, rfl, hg, ?_⟩, hc, ht⟩, (hs.keeps _).trans hk⟩
  · rw [World.cell?_setCell_same _ _ _ h1.c0]
  · rw [World.cell?_setCell_other _ _ _ _ (by simp)]; exact h1.c1
  · rw [World.frozen?_setCell]; exact h1.f o
  · intro j v hv
    have e1 := hs.range hr j v hv
    exact (hk.cell (p := ⟨g, o + j, none⟩) (World.block_lt_of_cell? _ _ e1) hg).trans e1

theorem cutS_len (s r : List UInt8) (n : Int) (h : cutS s = some (n, r)) : r.length ≤ s.length := by
  cases s with
  | nil => simp [cutS] at h
  | cons b t =>
    simp only [cutS] at h
    split at h
    · cases h
    · split at h
      · simp only [Option.some.injEq, Prod.mk.injEq] at h
        rw [← h.2]; simp; omega
      · cases h

/-- Int. -/
theorem rint_any {w : World} {rb : Nat} {s : List UInt8} {a : Option Addr} {c : Nat} {err : Int} (h : RdAt w rb s a c err) :
    Calls Tryd.prog 33 #[.pointer (some ⟨rb, 0, none⟩)] w fun e w' => ∃ a' c', e = .returned (.int .i64 (rdInt s err).1) ∧ RdAt w' rb (rdInt s err).2.1 a' c' (rdInt s err).2.2 ∧ Keeps (fun i => i = rb) w w' ∧ ((rdInt s err).2.2 = 0 → ∃ g o, a' = some ⟨g, o, none⟩) := by
  by_cases he : err = 0
  · subst he
    have bad : (hn : cutS s = none) → (Calls Tryd.prog 53 #[.slice a s.length c] w fun e w' => e = .returned (.tuple #[.int .i64 0, .slice none 0 0, .bool false]) ∧ Same w w') →
        Calls Tryd.prog 33 #[.pointer (some ⟨rb, 0, none⟩)] w fun e w' => ∃ a' c', e = .returned (.int .i64 (rdInt s 0).1) ∧ RdAt w' rb (rdInt s 0).2.1 a' c' (rdInt s 0).2.2 ∧ Keeps (fun i => i = rb) w w' ∧ ((rdInt s 0).2.2 = 0 → ∃ g o, a' = some ⟨g, o, none⟩) := fun hn hcut => by
      refine (rint_bad h hcut).mono ?_
      rintro e w' ⟨rfl, h2, hk⟩
      have e0 : rdInt s 0 = (0, [], 1) := by simp [rdInt, hn]
      rw [e0]
      exact ⟨none, 0, rfl, h2, hk, fun x => by simp at x⟩
    rcases h.sh with ⟨rfl, rfl⟩ | ⟨g, o, rfl, hg, hr⟩
    · exact bad rfl ((cut_nil none c w).mono (fun e w' ⟨x, y⟩ => ⟨x, by subst y; exact Same.refl _⟩))
    · cases s with
      | nil => exact bad rfl ((cut_nil (some ⟨g, o, none⟩) c w).mono (fun e w' ⟨x, y⟩ => ⟨x, by subst y; exact Same.refl _⟩))
      | cons b r =>
        have hc := h.hc
        have hl := h.hl
        simp only [List.length_cons] at hc hl
        by_cases hfar : 8 < b.toNat ∨ r.length < b.toNat
        · exact bad (by simp only [cutS]; rw [if_pos hfar]) (cut_far g o c b r w hr (by omega) hfar)
        · have hb1 : b.toNat ≤ 8 := by omega
          have hb2 : b.toNat ≤ r.length := by omega
          by_cases hwd : wid (joinB (r.take b.toNat)) = b.toNat
          · have hcs : cutS (b :: r) = some (joinB (r.take b.toNat), r.drop b.toNat) := by simp only [cutS]; rw [if_neg hfar, if_pos hwd]
            refine (rint_yes h _ g _ _ _ (cut_yes g o c b r w hr hc (by omega) hb1 hb2 hwd)).mono ?_
            rintro e w' ⟨o3, w1, rfl, hs1, rfl, hr3⟩
            have e0 : rdInt (b :: r) 0 = (joinB (r.take b.toNat), r.drop b.toNat, 0) := by simp [rdInt, hcs]
            rw [e0]
            obtain ⟨h2, hk⟩ := h.stored (t := r.drop b.toNat) (c' := c - 1 - b.toNat) (l := r.length - b.toNat) hs1 hg (by simp) hr3 (by simp; omega) (by simp; omega)
            exact ⟨_, _, rfl, h2, hk, fun _ => ⟨_, _, rfl⟩⟩
          · exact bad (by simp only [cutS]; rw [if_neg hfar, if_neg hwd]) (cut_bad g o c b r w hr hc (by omega) hb1 hb2 hwd)
  · refine (rint_err h he).mono ?_
    rintro e w' ⟨rfl, rfl⟩
    have e0 : rdInt s err = (0, s, err) := by simp [rdInt, he]
    rw [e0]
    exact ⟨a, c, rfl, h, Keeps.refl _ _, fun x => absurd x he⟩

theorem rint_nil (w : World) : Calls Tryd.prog 33 #[.pointer none] w fun e w' => e = .returned (.int .i64 0) ∧ w' = w := by
  go_enter Tryd.func33, Tryd.ntmps33
  go_wp2_with (go_at_call 34; refine (rerr_nil _).mono ?_; rintro e w' ⟨rfl, hw⟩; obtain rfl := hw.symm)
  go_ret
  exact ⟨rfl, rfl⟩

/-- What End tells. -/
def rdEnd (s : List UInt8) (err : Int) : Int := if err = 0 then (if s = [] then 0 else 1) else err
theorem rend_any {w : World} {rb : Nat} {s : List UInt8} {a : Option Addr} {c : Nat} {err : Int} (h : RdAt w rb s a c err) :
    Calls Tryd.prog 36 #[.pointer (some ⟨rb, 0, none⟩)] w fun e w' => e = .returned (.int .i64 (rdEnd s err)) ∧ w' = w := by
  have c0 := h.c0
  by_cases he : err = 0
  · subst he
    by_cases hs : s = []
    · subst hs
      go_enter Tryd.func36, Tryd.ntmps36
      go_wp2_with (go_at_call 34; refine (rerr_cell rb 0 _ h.c1).mono ?_; rintro e w' ⟨rfl, hw⟩; obtain rfl := hw.symm)
      go_ret
      exact ⟨rfl, rfl⟩
    · have hp : 0 < s.length := List.length_pos_iff.2 hs
      have HE : Hid (rdEnd s 0 = 1) := by show rdEnd s 0 = 1; simp [rdEnd, hs]
      clear hs
      go_enter Tryd.func36, Tryd.ntmps36
      go_wp2_with (go_at_call 34; refine (rerr_cell rb 0 _ h.c1).mono ?_; rintro e w' ⟨rfl, hw⟩; obtain rfl := hw.symm)
      go_ret
      exact ⟨by rw [HE.out]; rfl, rfl⟩
  · have hne : (err != 0) = true := by simpa using he
    have HE : Hid (rdEnd s err = err) := by show rdEnd s err = err; simp [rdEnd, he]
    clear he
    go_enter Tryd.func36, Tryd.ntmps36
    go_wp2_with (go_at_call 34; refine (rerr_cell rb err _ h.c1).mono ?_; rintro e w' ⟨rfl, hw⟩; obtain rfl := hw.symm)
    go_ret
    exact ⟨by rw [HE.out]; rfl, rfl⟩
theorem rend_nil (w : World) : Calls Tryd.prog 36 #[.pointer none] w fun e w' => e = .returned (.int .i64 1) ∧ w' = w := by
  go_enter Tryd.func36, Tryd.ntmps36
  go_wp2_with (go_at_call 34; refine (rerr_nil _).mono ?_; rintro e w' ⟨rfl, hw⟩; obtain rfl := hw.symm)
  go_ret
  exact ⟨rfl, rfl⟩
end Go.Proofs.YtmdjjnjhjojimaaDoor
