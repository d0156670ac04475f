import Derived.Test.YtmgdkaohdpdmkaaGreatDoorSlM
namespace Go.Proofs.YtmgdkaohdpdmkaaGreatDoor
open Go.RowKit

/-- The loop's: numbers W last on the device; 'a' reads them, in a block of its own. -/
def MakI (w wr : World) (sb db nb : Nat) (was : Value) (j : Nat) : Prop :=
  ∃ (W : List Int) (wa : Option Addr) (wc mb k : Nat) (B : List UInt8) (D : DataW Unit) (left : Int) (down : Bool), was = .slice wa W.length wc ∧ W.length ≤ 4 ∧ DevAt wr db nb mb 64 64 B k D left down ∧ k ≤ j + 2 ∧ Good B D left down W ∧ SlAt wr sb db false ∧ (sb ≠ db ∧ sb ≠ nb ∧ sb ≠ mb) ∧ (w.heap.size ≤ db ∧ w.heap.size ≤ nb ∧ w.heap.size ≤ mb ∧ w.heap.size ≤ sb) ∧ Below w.heap.size w wr ∧ IntsAt wr wr.heap.size wa W.length W ∧ (∀ b o, wa = some ⟨b, o, none⟩ → W.length ≠ 0 → b ≠ db ∧ b ≠ nb ∧ b ≠ mb)
theorem MakI.bel {w wr : World} {sb db nb : Nat} {was : Value} {j : Nat} (h : MakI w wr sb db nb was j) : Below w.heap.size w wr := by
  obtain ⟨W, wa, wc, mb, k, B, D, left, down, _, _, _, _, _, _, _, _, hb, _⟩ := h
  exact hb
/-- One round. -/
theorem MakI.set {w wr : World} {sb db nb : Nat} {was : Value} {j : Nat} (h : MakI w wr sb db nb was j) (hj : j < 5) :
    Calls Tryz.prog 12 #[.pointer (some ⟨sb, 0, none⟩), .slice (some ⟨wr.heap.size, 0, none⟩) 2 2] (wr.alloc (.cells #[.int .i64 j, .int .i64 77] 2)) fun e w' => e = .returned (.int .i64 0) ∧ MakI w w' sb db nb (.slice (some ⟨wr.heap.size, 0, none⟩) 2 2) (j + 1) := by
  obtain ⟨W, wa, wc, mb, k, B, D, left, down, _, _, hd, hk, hG, hSl, hne, hlow, hb, _, _⟩ := h
  have hkA : Keeps (fun _ => False) wr (wr.alloc (.cells #[.int .i64 j, .int .i64 77] 2)) := (Keeps.refl _ wr).alloc _
  have hd' := hd.keeps hkA (fun e => e) (fun e => e) (fun e => e)
  have hSl' := hSl.keeps hkA (fun e => e)
  have hv := heap_alloc_last wr (.cells #[.int .i64 j, .int .i64 77] 2)
  have hz : (wr.alloc (.cells #[.int .i64 j, .int .i64 77] 2)).heap.size = wr.heap.size + 1 := by simp
  have hbA : Below w.heap.size w (wr.alloc (.cells #[.int .i64 j, .int .i64 77] 2)) := hb.alloc hb.size _
  have hsz := hb.size
  have dl := hd.dlt
  have dn := hd.nlt
  have dm := hd.mlt
  have sl := hSl.lt
  have el := hG.l
  have ed := hG.dn
  subst el ed
  generalize wr.alloc (.cells #[.int .i64 j, .int .i64 77] 2) = wA at hkA hd' hSl' hv hz hbA ⊢
  have hf : AllFit [(j : Int), 77] := fun x hx => by simp only [List.mem_cons, List.not_mem_nil, or_false] at hx; rcases hx with rfl | rfl <;> omega
  have hI : IntsAt wA wA.heap.size (some ⟨wr.heap.size, 0, none⟩) [(j : Int), 77].length [(j : Int), 77] := ⟨rfl, hf, Or.inr ⟨wr.heap.size, 0, rfl, by omega, range_of_row hv _ rfl⟩⟩
  have ks := set_at hd' hSl' hne (by omega) (some ⟨wr.heap.size, 0, none⟩) 2 [(j : Int), 77] (by simp) hI
  rw [show [(j : Int), 77].length = 2 from rfl] at ks
  refine ks.mono ?_
  rintro e w7 ⟨code7, mb7, k7, B7, D7, left7, down7, rfl, hd7, hk7, hm7, hK7, hO7, hSl7⟩
  obtain ⟨rfl, hG7⟩ := save_good hd'.len (by omega) (by simp) hf hO7
  have hs7 := hK7.size
  obtain ⟨o1, o2, o3, o4⟩ := hlow
  obtain ⟨e1, e2, e3⟩ := hne
  refine ⟨rfl, [(j : Int), 77], some ⟨wr.heap.size, 0, none⟩, 2, mb7, k7, B7, D7, left7, down7, rfl, by simp, hd7, by omega, hG7, hSl7, ⟨e1, e2, by omega⟩, ⟨o1, o2, by omega, o4⟩, hbA.trans (hK7.below (by omega) (fun i e => by omega)), ?_, fun b o e _ => by cases e; omega⟩
  exact (hI.keep (Nat.le_refl _) hK7 (fun b o e _ x => by cases e; omega)).up hs7
end Go.Proofs.YtmgdkaohdpdmkaaGreatDoor
