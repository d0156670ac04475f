import Derived.Test.YtmdjjnjhjojimaaDoorBallA
import Derived.Test.YtmdjjnjhjojimaaDoorCutA
import Derived.Deep.QuietTactic
import Derived.BigQuiet
import Derived.Deep.DeepCutAuto
import Derived.Deep.RegionHeld3
namespace Go.Proofs.YtmdjjnjhjojimaaDoor
open Go.RowKit Go.Maps

/-- A text, at most 30 of its bytes. -/
def cut30 (s : ByteArray) : ByteArray := s.extract 0 (min (s.size : Int) 30).toNat
theorem cut30_size (s : ByteArray) : (cut30 s).size ≤ 30 := by unfold cut30; rw [ByteArray.size_extract]; omega
theorem text30 (st : ByteArray) (w : World) : Calls Tryd.prog 29 #[.string st, .int .i64 30] w fun e w' => e = .returned (.string (cut30 st)) ∧ w' = w := by
  go_enter Tryd.func29, Tryd.ntmps29
  go_wp2
  go_ret
  exact ⟨rfl, rfl⟩
def encT (s : ByteArray) : List UInt8 := encInt (cut30 s).size ++ (cut30 s).data.toList
theorem encT_len (s : ByteArray) : (encT s).length ≤ 40 := by
  unfold encT
  rw [List.length_append, encInt_length]
  have h1 := wid_le (cut30 s).size
  have h2 := cut30_size s
  have h3 : (cut30 s).data.toList.length = (cut30 s).size := by simp
  omega
def flatT (T : List ByteArray) (j : Nat) : List UInt8 := (T.take j).flatMap encT
theorem flatT_succ (T : List ByteArray) (j : Nat) (hj : j < T.length) : flatT T (j + 1) = flatT T j ++ encT (T.getD j ⟨#[]⟩) := by
  unfold flatT
  rw [List.take_succ_eq_append_getElem hj, List.flatMap_append]
  simp [List.getD, List.getElem?_eq_getElem hj]
theorem flatT_len (T : List ByteArray) : ∀ j, (flatT T j).length ≤ 40 * j := by
  intro j
  induction j with
  | zero => simp [flatT]
  | succ j ih =>
    by_cases hj : j < T.length
    · rw [flatT_succ T j hj, List.length_append]
      have := encT_len (T.getD j ⟨#[]⟩)
      omega
    · unfold flatT at ih ⊢
      rw [List.take_of_length_le (by omega)] at ih ⊢
      omega
theorem flat_lenA (A : List Int) (j : Nat) : (flat A j).length ≤ 10 * j := flat_len (A.take j) j (by rw [List.length_take]; omega)

/-- Texts that a slice reads. -/
structure StrsAt (w : World) (L : Nat) (a : Option Addr) (n : Nat) (A : List ByteArray) : Prop where
  len : A.length = n
  at_ : n = 0 ∨ ∃ b o, a = some ⟨b, o, none⟩ ∧ b < L ∧ w.rangeAt b o (A.map Value.string)
theorem StrsAt.below {w w' : World} {L : Nat} {a : Option Addr} {n : Nat} {A : List ByteArray} (h : StrsAt w L a n A) (hb : Below L w w') : StrsAt w' L a n A := {
  len := h.len
  at_ := by
    rcases h.at_ with h0 | ⟨b, o, e, hl, hr⟩
    · exact Or.inl h0
    · exact Or.inr ⟨b, o, e, hl, fun j v hv => (hb.cell (p := ⟨b, o + j, none⟩) hl).trans (hr j v hv)⟩ }
theorem StrsAt.cell {w : World} {L : Nat} {a : Option Addr} {n : Nat} {A : List ByteArray} (h : StrsAt w L a n A) (j : Nat) (hj : j < n) : ∃ b o, a = some ⟨b, o, none⟩ ∧ w.cell? ⟨b, o + j, none⟩ = some (.string (A.getD j ⟨#[]⟩)) := by
  rcases h.at_ with h0 | ⟨b, o, e, hl, hr⟩
  · omega
  · have := h.len
    exact ⟨b, o, e, hr j _ (by rw [List.getElem?_map, List.getElem?_eq_getElem (by omega)]; simp [List.getD, List.getElem?_eq_getElem (show j < A.length by omega)])⟩

/-- A Writer and a row of the same bytes beside it. -/
structure Two (w : World) (wb base : Nat) (s : List UInt8) (a : Option Addr) (c : Nat) (sl : Value) : Prop where
  wr : WrAt w wb base s a c
  row : w.ownsRow base 5 1 sl s.length (bytesV s)
  ne1 : sl.ownBlock ≠ some wb
  ne2 : ∀ g, (Value.slice a s.length c).ownBlock = some g → sl.ownBlock ≠ some g
theorem row_keeps {S : Nat → Prop} {w w' : World} {base n : Nat} {sl : Value} {xs : List Value} (h : w.ownsRow base 5 1 sl n xs) (hk : Keeps S w w') (hs : ∀ g, sl.ownBlock = some g → ¬ S g) : w'.ownsRow base 5 1 sl n xs := by
  obtain ⟨hl, ⟨e, h0⟩ | ⟨g, cap, cur, e, r1, r2, r3⟩⟩ := h
  · exact ⟨hl, Or.inl ⟨e, h0⟩⟩
  · refine ⟨hl, Or.inr ⟨g, cap, cur, e, r1, ?_, r3⟩⟩
    rw [hk.block g (Array.getElem?_eq_some_iff.1 r2).1 (hs g (by rw [e]; rfl))]; exact r2
theorem row_own {w : World} {base n : Nat} {sl : Value} {xs : List Value} (h : w.ownsRow base 5 1 sl n xs) {g : Nat} (hg : sl.ownBlock = some g) : base ≤ g ∧ g < w.heap.size := by
  obtain ⟨_, ⟨e, _⟩ | ⟨g', cap, cur, e, r1, r2, _⟩⟩ := h
  · rw [e] at hg; cases hg
  · rw [e] at hg; cases hg
    exact ⟨r1, (Array.getElem?_eq_some_iff.1 r2).1⟩
/-- Behind a step of the Writer alone. -/
theorem Two.written {w w' : World} {wb base : Nat} {s t : List UInt8} {a a' : Option Addr} {c c' : Nat} {sl : Value} (h : Two w wb base s a c sl) (hk : Keeps (WrMay wb (.slice a s.length c)) w w') (hm : Moved w (.slice a s.length c) (.slice a' (s ++ t).length c')) :
    w'.ownsRow base 5 1 sl s.length (bytesV s) ∧ (∀ g, (Value.slice a' (s ++ t).length c').ownBlock = some g → sl.ownBlock ≠ some g) := by
  refine ⟨row_keeps h.row hk (fun g hg e => ?_), fun g hg e => ?_⟩
  · rcases e with e | e
    · exact h.ne1 (by rw [hg, e])
    · exact h.ne2 g e hg
  · rcases hm with x | ⟨g', x, hge⟩
    · exact h.ne2 g (by rw [← x]; exact hg) e
    · rw [x] at hg
      cases hg
      have := (row_own h.row e).2
      omega
/-- Behind the row's own step. -/
theorem Two.done {w w' : World} {wb base : Nat} {t : List UInt8} {a : Option Addr} {c : Nat} {sl sl' : Value} (hwr : WrAt w wb base t a c) (h1 : sl.ownBlock ≠ some wb) (h2 : ∀ g, (Value.slice a t.length c).ownBlock = some g → sl.ownBlock ≠ some g)
    (hrow : w'.ownsRow base 5 1 sl' t.length (bytesV t)) (hg : w.grownBy w' sl.ownBlock) (hl : sl'.ownBlock = sl.ownBlock ∨ sl'.ownBlock = some w.heap.size) : Two w' wb base t a c sl' := by
  have hk : Keeps (fun i => sl.ownBlock = some i) w w' := (Keeps.refl _ w).grown hg (fun k e => e)
  refine ⟨hwr.keeps hk h1 (fun g hg' e => h2 g hg' e), hrow, ?_, fun g hg' e => ?_⟩
  · rcases hl with x | x
    · rw [x]; exact h1
    · rw [x]; intro e; cases e; have := hwr.lt; omega
  · rcases hl with x | x
    · rw [x] at e; exact h2 g hg' e
    · rw [x] at e; cases e; have := (hwr.own hg').2; omega
end Go.Proofs.YtmdjjnjhjojimaaDoor
