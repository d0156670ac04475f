import Derived.Test.YtmdjjnjhjojimaaDoorAllM
namespace Go.Proofs.YtmdjjnjhjojimaaDoor
open Go.RowKit Go.Maps

theorem slots_st {r : Nat} {v1 v2 : Value} {L : Array Bool} {x : Nat → Value} (hL : L.size = 22) {i : Nat} (hi : i < 22) (hv : valOf r v1 v2 i = none) (h : ∀ k v, fl L k = true → valOf r v1 v2 k = some v → x (slotOf k) = v) :
    ∀ k u, fl (L.setIfInBounds i true) k = true → valOf r v1 v2 k = some u → x (slotOf k) = u := by
  intro k u hk hu
  rw [fl_set (by omega)] at hk
  by_cases e : k = i
  · subst e; rw [hv] at hu; cases hu
  · rw [if_neg e] at hk; exact h k u hk hu
theorem NdI.store1 {A : (Nat → Value) → Act} {wr : World} {Lm r lb cl n j : Nat} {v1 v2 : Value} {xs1 xs2 : List Value} {L : Array Bool} {a : Act} {w : World} (h0 : NInv wr Lm r lb cl n j v1 v2 xs1 xs2) (hf : fl L 18 = false) (d5 : fl L 5 = true) (d12 : fl L 12 = true) (d8 : fl L 8 = true) (d15 : fl L 15 = true) (hev : ∀ x, (A x).eval (.tmp 22) = x 22) (h : NdI A wr Lm r j v1 v2 xs1 xs2 L a w) :
    ∃ g c, a.eval (.tmp 22) = .slice (some ⟨g, 0, none⟩) (j + 1) c ∧ w.cell? ⟨r, 0, none⟩ = some v1 ∧ w.frozen? ⟨r, 0, none⟩ = false ∧ NdI A wr Lm r j v1 v2 xs1 xs2 (L.setIfInBounds 18 true) a (w.setCell ⟨r, 0, none⟩ (.slice (some ⟨g, 0, none⟩) (j + 1) c)) := by
  obtain ⟨hL, x, w0, m1, g1, m2, g2, rfl, hw, hs, hp, h1, h2⟩ := h
  have e21 : fl L 21 = false := by
    cases e : fl L 21
    · rfl
    · have := h2 e; rw [hf] at this; cases this
  rw [hf, e21] at hw
  have hw' : w = w0 := hw
  subst hw'
  have hfl : ∀ k, k ≠ 18 → fl (L.setIfInBounds 18 true) k = fl L k := fun k hk => by rw [fl_set (by omega), if_neg hk]
  have hfi : fl (L.setIfInBounds 18 true) 18 = true := by rw [fl_set (by omega), if_pos rfl]
  obtain ⟨l1, l2, l3, l4⟩ := h0.lim
  have hn : ¬ (v1.ownBlock = some r ∨ v2.ownBlock = some r) := fun e => by
    rcases e with e | e
    · have := (h0.two.o1.lt r e).1; omega
    · have := (h0.two.o2.lt r e).1; omega
  obtain ⟨c, hx, _⟩ := hp.a.hA d8
  refine ⟨g1, c, (hev x).trans hx, (hp.k.cell (p := ⟨r, 0, none⟩) (by show r < _; omega) hn).trans h0.c0, (hp.k.frozen (p := ⟨r, 0, none⟩) (by show r < _; omega) hn).trans (h0.f 0), by rw [Array.size_setIfInBounds]; exact hL, x, w, m1, g1, m2, g2, rfl, ?_, slots_st hL (by decide) rfl hs, ?_, ?_, ?_⟩
  · rw [hfi, hfl 21 (by decide), e21, hx]; rfl
  · rw [hfl 6 (by decide), hfl 7 (by decide), hfl 8 (by decide), hfl 13 (by decide), hfl 14 (by decide), hfl 15 (by decide)]; exact hp
  · intro _
    rw [hfl 5 (by decide), hfl 12 (by decide), hfl 8 (by decide), hfl 15 (by decide)]
    exact ⟨d5, d12, d8, d15⟩
  · intro _; exact hfi
theorem NdI.store2 {A : (Nat → Value) → Act} {wr : World} {Lm r lb cl n j : Nat} {v1 v2 : Value} {xs1 xs2 : List Value} {L : Array Bool} {a : Act} {w : World} (h0 : NInv wr Lm r lb cl n j v1 v2 xs1 xs2) (hf : fl L 21 = false) (d18 : fl L 18 = true) (hev : ∀ x, (A x).eval (.tmp 29) = x 29) (h : NdI A wr Lm r j v1 v2 xs1 xs2 L a w) :
    ∃ g c, a.eval (.tmp 29) = .slice (some ⟨g, 0, none⟩) (j + 1) c ∧ w.cell? ⟨r, 1, none⟩ = some v2 ∧ w.frozen? ⟨r, 1, none⟩ = false ∧ NdI A wr Lm r j v1 v2 xs1 xs2 (L.setIfInBounds 21 true) a (w.setCell ⟨r, 1, none⟩ (.slice (some ⟨g, 0, none⟩) (j + 1) c)) := by
  obtain ⟨hL, x, w0, m1, g1, m2, g2, rfl, hw, hs, hp, h1, h2⟩ := h
  rw [hf, d18] at hw
  have hw' : w = w0.setCell ⟨r, 0, none⟩ (x 22) := hw
  subst hw'
  have hfl : ∀ k, k ≠ 21 → fl (L.setIfInBounds 21 true) k = fl L k := fun k hk => by rw [fl_set (by omega), if_neg hk]
  have hfi : fl (L.setIfInBounds 21 true) 21 = true := by rw [fl_set (by omega), if_pos rfl]
  obtain ⟨l1, l2, l3, l4⟩ := h0.lim
  have hn : ¬ (v1.ownBlock = some r ∨ v2.ownBlock = some r) := fun e => by
    rcases e with e | e
    · have := (h0.two.o1.lt r e).1; omega
    · have := (h0.two.o2.lt r e).1; omega
  obtain ⟨d5, d12, d8, d15⟩ := h1 d18
  obtain ⟨c, hx, _⟩ := hp.b.hA d15
  refine ⟨g2, c, (hev x).trans hx, (World.cell?_setCell_other _ _ _ _ (by simp)).trans ((hp.k.cell (p := ⟨r, 1, none⟩) (by show r < _; omega) hn).trans h0.c1), (World.frozen?_setCell _ _ _ _).trans ((hp.k.frozen (p := ⟨r, 1, none⟩) (by show r < _; omega) hn).trans (h0.f 1)), by rw [Array.size_setIfInBounds]; exact hL, x, w0, m1, g1, m2, g2, rfl, ?_, slots_st hL (by decide) rfl hs, ?_, ?_, ?_⟩
  · rw [hfi, hfl 18 (by decide), d18, hx]; rfl
  · rw [hfl 6 (by decide), hfl 7 (by decide), hfl 8 (by decide), hfl 13 (by decide), hfl 14 (by decide), hfl 15 (by decide)]; exact hp
  · intro _
    rw [hfl 5 (by decide), hfl 12 (by decide), hfl 8 (by decide), hfl 15 (by decide)]
    exact ⟨d5, d12, d8, d15⟩
  · intro _; rw [hfl 18 (by decide)]; exact d18
theorem NdI.finish {A : (Nat → Value) → Act} {wr : World} {Lm r lb cl n j : Nat} {v1 v2 : Value} {xs1 xs2 : List Value} {L : Array Bool} {a : Act} {w : World} (h0 : NInv wr Lm r lb cl n j v1 v2 xs1 xs2) (h : NdI A wr Lm r j v1 v2 xs1 xs2 L a w) (hall : ∀ k, k < 22 → fl L k = true) :
    ∃ (x : Nat → Value) (y1 y2 : Value) (ys1 ys2 : List Value), a = A x ∧ NInv w Lm r lb cl n (j + 1) y1 y2 ys1 ys2 ∧ Keeps (fun b => b = r ∨ Lm ≤ b) wr w := by
  obtain ⟨hL, x, w0, m1, g1, m2, g2, rfl, hw, hs, hp, h1, h2⟩ := h
  rw [hall 6 (by decide), hall 7 (by decide), hall 8 (by decide), hall 13 (by decide), hall 14 (by decide), hall 15 (by decide)] at hp
  rw [hall 18 (by decide), hall 21 (by decide)] at hw
  obtain ⟨q1, q2⟩ := hp.done h0
  exact ⟨x, _, _, _, _, rfl, hw ▸ q1, hw ▸ q2⟩
theorem NdI.start {A : (Nat → Value) → Act} {wr : World} {Lm r lb cl n j : Nat} {v1 v2 : Value} {xs1 xs2 : List Value} (h0 : NInv wr Lm r lb cl n j v1 v2 xs1 xs2) (x : Nat → Value) : NdI A wr Lm r j v1 v2 xs1 xs2 (Array.replicate 22 false) (A x) wr := by
  have hz : ∀ k, fl (Array.replicate 22 false) k = false := fun k => by
    unfold fl
    simp only [Array.getD_eq_getD_getElem?, Array.getElem?_replicate]
    split <;> rfl
  have hc : ∀ v xs, wr.ownsRow Lm 33 1 v j xs → Ch wr wr Lm j v xs false false false (x 20) (x 21) (x 22) 0 0 ∧ Ch wr wr Lm j v xs false false false (x 27) (x 28) (x 29) 0 0 := fun v xs hv =>
    ⟨⟨fun e => e, fun e => e, fun e => (by cases e), fun e => (by cases e), fun _ => hv, fun e => (by cases e)⟩, ⟨fun e => e, fun e => e, fun e => (by cases e), fun e => (by cases e), fun _ => hv, fun e => (by cases e)⟩⟩
  refine ⟨by simp, x, wr, 0, 0, 0, 0, rfl, ?_, fun k v hk => ?_, ?_, ?_, ?_⟩
  · rw [hz, hz]; rfl
  · rw [hz] at hk; cases hk
  · rw [hz, hz, hz, hz, hz, hz]
    exact ⟨Keeps.refl _ _, (hc v1 xs1 h0.two.o1).1, (hc v2 xs2 h0.two.o2).2, fun e => (by cases e), fun e => (by cases e), fun e => (by cases e)⟩
  · rw [hz]; intro e; cases e
  · rw [hz]; intro e; cases e
end Go.Proofs.YtmdjjnjhjojimaaDoor
