import Derived.Test.YtmgdkaohdpdmkaaGreatDoorSlO
namespace Go.Proofs.YtmgdkaohdpdmkaaGreatDoor
open Go.RowKit

/-- Lists of numbers that an argument reads. -/
def SetsAt (w : World) (a : Option Addr) (m : Nat) : Prop := ∀ j, j < m → ∃ (b o : Nat) (aj : Option Addr) (nj cj : Nat) (A : List Int), a = some ⟨b, o, none⟩ ∧ b < w.heap.size ∧ w.cell? ⟨b, o + j, none⟩ = some (.slice aj nj cj) ∧ IntsAt w w.heap.size aj nj A ∧ nj ≤ cj ∧ cj ≤ 9223372036854775807
/-- A device and its slot, all taken. -/
def AlD (w wr : World) (sb db nb : Nat) (W : List Int) (wa : Option Addr) (left : Int) (down : Bool) (k : Nat) : Prop :=
  ∃ (mb : Nat) (B : List UInt8), W.length ≤ 4 ∧ DevAt wr db nb mb 64 64 B k (.map []) left down ∧ told B = some W ∧ SlAt wr sb db false ∧ (sb ≠ db ∧ sb ≠ nb ∧ sb ≠ mb) ∧ (w.heap.size ≤ db ∧ w.heap.size ≤ nb ∧ w.heap.size ≤ mb ∧ w.heap.size ≤ sb) ∧ Below w.heap.size w wr ∧ IntsAt wr wr.heap.size wa W.length W ∧ (∀ b o, wa = some ⟨b, o, none⟩ → W.length ≠ 0 → b ≠ db ∧ b ≠ nb ∧ b ≠ mb ∧ b ≠ sb)
/-- A save that was cut off. -/
def AlN (w wr : World) (sb db nb : Nat) (W X : List Int) (wa : Option Addr) : Prop :=
  ∃ (mb k : Nat) (B : List UInt8) (D : DataW Unit) (left : Int) (down : Bool) (y : Option (List Int)), k ≤ 100 ∧ DevAt wr db nb mb 64 64 B k D left down ∧ Lasts 64 B D (some W) y ∧ (y = some W ∨ y = some X) ∧ SlAt wr sb db true ∧ Below w.heap.size w wr ∧ IntsAt wr wr.heap.size wa W.length W
theorem AlD.keep {w wr wr' : World} {sb db nb : Nat} {W : List Int} {wa : Option Addr} {left : Int} {down : Bool} {k : Nat} (h : AlD w wr sb db nb W wa left down k) (hk : Keeps (fun _ => False) wr wr') : AlD w wr' sb db nb W wa left down k := by
  obtain ⟨mb, B, h1, h2, h3, h4, h5, h6, h7, h8, h9⟩ := h
  exact ⟨mb, B, h1, h2.keeps hk (fun e => e) (fun e => e) (fun e => e), h3, h4.keeps hk (fun e => e), h5, h6, h7.trans (hk.below h7.size (fun _ e => e.elim)), (h8.keep (Nat.le_refl _) hk (fun _ _ _ _ e => e)).up hk.size, h9⟩
theorem AlD.bel {w wr : World} {sb db nb : Nat} {W : List Int} {wa : Option Addr} {left : Int} {down : Bool} {k : Nat} (h : AlD w wr sb db nb W wa left down k) : Below w.heap.size w wr := by
  obtain ⟨mb, B, h1, h2, h3, h4, h5, h6, h7, h8, h9⟩ := h
  exact h7
theorem AlD.fuse {w wr : World} {sb db nb : Nat} {W : List Int} {wa : Option Addr} {left : Int} {k : Nat} (h : AlD w wr sb db nb W wa left false k) (m : Int) (hm : m ≤ 9223372036854775807) :
    Calls Tryz.prog 13 #[.pointer (some ⟨db, 0, none⟩), .int .i64 m] wr fun e w' => e = .returned (.tuple #[]) ∧ ∃ left' down', AlD w w' sb db nb W wa left' down' k := by
  obtain ⟨mb, B, h1, h2, h3, h4, h5, h6, h7, h8, h9⟩ := h
  refine (fuse_any h2 m hm).mono ?_
  rintro e w' ⟨rfl, hd, hk⟩
  have hs := h7.size
  exact ⟨rfl, _, _, mb, B, h1, hd, h3, h4.keeps hk h5.1, h5, h6, h7.trans (hk.below hs (fun i e => by omega)), (h8.keep (Nat.le_refl _) hk (fun b o e hn x => (h9 b o e hn).1 x)).up hk.size, h9⟩
theorem AlD.set {w wr : World} {sb db nb : Nat} {W : List Int} {wa : Option Addr} {left : Int} {down : Bool} {k : Nat} (h : AlD w wr sb db nb W wa left down k) (hk : k ≤ 50) (aj : Option Addr) (cj : Nat) (X : List Int) (hX : X.length ≤ 4) (hI : IntsAt w w.heap.size aj X.length X) :
    Calls Tryz.prog 12 #[.pointer (some ⟨sb, 0, none⟩), .slice aj X.length cj] wr fun e w' => ∃ code, e = .returned (.int .i64 code) ∧ ((code = 0 ∧ ∃ left' down' k', k' ≤ k + 1 ∧ AlD w w' sb db nb X aj left' down' k' ∧ (left = 0 ∧ down = false → left' = 0 ∧ down' = false)) ∨ (code = 9 ∧ AlN w w' sb db nb W X wa)) := by
  obtain ⟨mb, B, h1, h2, h3, h4, h5, h6, h7, h8, h9⟩ := h
  have hs := h7.size
  have i1 := (hI.below h7).up hs
  refine (set_at h2 h4 h5 (by omega) aj cj X hX i1).mono ?_
  rintro e w7 ⟨code7, mb7, k7, B7, D7, left7, down7, rfl, hd7, hk7, hm7, hK7, hO7, hSl7⟩
  have hs7 := hK7.size
  have hb7 : Below w.heap.size wr w7 := hK7.below (by omega) (fun i e => by omega)
  have hbw := h7.trans hb7
  obtain ⟨o1, o2, o3, o4⟩ := h6
  obtain ⟨e1, e2, e3⟩ := h5
  have sl := h4.lt
  refine ⟨code7, rfl, ?_⟩
  rcases save_lasts (n := 64) (by omega) h2.len rfl h3 hX hI.fit hO7 with ⟨rfl, rfl, hl, ht⟩ | ⟨rfl, y, hL, hy⟩
  · refine Or.inl ⟨rfl, left7, down7, k7, hk7, ⟨mb7, B7, hX, hd7, ht, hSl7, ⟨e1, e2, by omega⟩, ⟨o1, o2, by omega, o4⟩, hbw, (hI.below hbw).up (by omega), fun b o e hn => ?_⟩, ?_⟩
    · have := hI.lt e hn
      omega
    · rintro ⟨rfl, rfl⟩
      obtain ⟨_, hG⟩ := save_good h2.len (by omega) hX hI.fit hO7
      exact ⟨hG.l, hG.dn⟩
  · exact Or.inr ⟨rfl, mb7, k7, B7, D7, left7, down7, y, by omega, hd7, hL, hy, hSl7, hbw, (h8.keep (Nat.le_refl _) hK7 (fun b o e hn x => by have := h9 b o e hn; omega)).up hs7⟩
/-- What a crash leaves, taken up again. -/
def AlC (w6 : World) (db6 : Nat) (W X : List Int) : Prop :=
  ∃ (nb mb cap : Nat) (B : List UInt8), DevAt w6 db6 nb mb 64 cap B 0 (.map []) 0 false ∧ (told B = some W ∨ told B = some X)
theorem AlD.crash {w wr : World} {sb db nb : Nat} {W : List Int} {wa : Option Addr} {left : Int} {down : Bool} {k : Nat} (h : AlD w wr sb db nb W wa left down k) (hk : k ≤ 100) {ka : Option Addr} {kl : Nat} {K : List Bool} (kc : Nat) (hK : KeepB w w.heap.size ka kl K) :
    Calls Tryz.prog 15 #[.pointer (some ⟨db, 0, none⟩), .slice ka kl kc] wr fun e w' => ∃ db6, e = .returned (.pointer (some ⟨db6, 0, none⟩)) ∧ AlC w' db6 W W ∧ AlD w w' sb db nb W wa left down k := by
  have h0 := h
  obtain ⟨mb, B, h1, h2, h3, h4, h5, h6, h7, h8, h9⟩ := h
  refine (crash_l h2 (by omega) kc (hK.below h7)).mono ?_
  rintro e w6 ⟨L6, db6, nb6, mb6, cap6, hLp6, _, rfl, y1, y2, y3, hd6, hb6⟩
  exact ⟨db6, rfl, ⟨nb6, mb6, cap6, _, hd6, (crash_lasts (n := 64) (by omega) ⟨h2.len, Or.inl ⟨rfl, h3, rfl⟩⟩ (K := K) hLp6).1⟩, h0.keep (Keeps.of_below hb6)⟩
theorem AlN.keep {w wr wr' : World} {sb db nb : Nat} {W X : List Int} {wa : Option Addr} (h : AlN w wr sb db nb W X wa) (hk : Keeps (fun _ => False) wr wr') : AlN w wr' sb db nb W X wa := by
  obtain ⟨mb, k, B, D, left, down, y, h1, h2, h3, h4, h5, h6, h7⟩ := h
  exact ⟨mb, k, B, D, left, down, y, h1, h2.keeps hk (fun e => e) (fun e => e) (fun e => e), h3, h4, h5.keeps hk (fun e => e), h6.trans (hk.below h6.size (fun _ e => e.elim)), (h7.keep (Nat.le_refl _) hk (fun _ _ _ _ e => e)).up hk.size⟩
theorem AlN.crash {w wr : World} {sb db nb : Nat} {W X : List Int} {wa : Option Addr} (h : AlN w wr sb db nb W X wa) {ka : Option Addr} {kl : Nat} {K : List Bool} (kc : Nat) (hK : KeepB w w.heap.size ka kl K) :
    Calls Tryz.prog 15 #[.pointer (some ⟨db, 0, none⟩), .slice ka kl kc] wr fun e w' => ∃ db6, e = .returned (.pointer (some ⟨db6, 0, none⟩)) ∧ AlC w' db6 W X ∧ AlN w w' sb db nb W X wa := by
  have h0 := h
  obtain ⟨mb, k, B, D, left, down, y, h1, h2, h3, h4, h5, h6, h7⟩ := h
  refine (crash_l h2 (by omega) kc (hK.below h6)).mono ?_
  rintro e w6 ⟨L6, db6, nb6, mb6, cap6, hLp6, _, rfl, y1, y2, y3, hd6, hb6⟩
  refine ⟨db6, rfl, ⟨nb6, mb6, cap6, _, hd6, ?_⟩, h0.keep (Keeps.of_below hb6)⟩
  rcases (crash_lasts (n := 64) (by omega) h3 (K := K) hLp6).1 with e | e
  · exact Or.inl e
  · rw [e]; exact h4
theorem AlC.open {w6 : World} {db6 : Nat} {W X : List Int} (h : AlC w6 db6 W X) :
    Calls Tryz.prog 14 #[.pointer (some ⟨db6, 0, none⟩)] w6 fun e w7 => ∃ sb7 ka7 kc7 Y, e = .returned (.tuple #[.pointer (some ⟨sb7, 0, none⟩), .slice ka7 (List.length Y) kc7, .int .i64 0]) ∧ (Y = W ∨ Y = X) ∧ IntsAt w7 w7.heap.size ka7 Y.length Y ∧ Keeps (fun _ => False) w6 w7 := by
  obtain ⟨nb, mb, cap, B, hd, ht⟩ := h
  refine (open_at hd).mono ?_
  rintro e w7 ⟨hb7, _, hS7⟩
  obtain ⟨Y, hY, hYc⟩ : ∃ Y, told B = some Y ∧ (Y = W ∨ Y = X) := by
    rcases ht with e | e
    · exact ⟨W, e, Or.inl rfl⟩
    · exact ⟨X, e, Or.inr rfl⟩
  obtain ⟨t7, hx7⟩ := told_some hY
  obtain ⟨sb7, ka7, kc7, rfl, _, _, hJ7, _⟩ := hS7 t7 Y hx7
  exact ⟨sb7, ka7, kc7, Y, rfl, hYc, hJ7, Keeps.of_below hb7⟩
end Go.Proofs.YtmgdkaohdpdmkaaGreatDoor
