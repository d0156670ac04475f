import Derived.Test.YteaacodloabdcaaGreatDoorTextA
namespace Go.Proofs.YteaacodloabdcaaGreatDoor
open Go.RowKit Go.Maps

/-- Numbers that an int64 holds. -/
def AllFit (l : List Int) : Prop := ∀ x ∈ l, -9223372036854775808 ≤ x ∧ x ≤ 9223372036854775807
theorem enc_head {x y : Int} {A B : List UInt8} (hx : -9223372036854775808 ≤ x ∧ x ≤ 9223372036854775807) (hy : -9223372036854775808 ≤ y ∧ y ≤ 9223372036854775807) (h : encInt x ++ A = encInt y ++ B) : x = y ∧ A = B := by
  have h1 := cutS_enc x A hx.1 hx.2
  rw [h, cutS_enc y B hy.1 hy.2] at h1
  simp only [Option.some.injEq, Prod.mk.injEq] at h1
  exact ⟨h1.1.symm, h1.2.symm⟩
theorem flat_inj : ∀ a b : List Int, AllFit a → AllFit b → a.flatMap encInt = b.flatMap encInt → a = b
  | [], [], _, _, _ => rfl
  | [], y :: b, _, _, h => by simp [encInt] at h
  | x :: a, [], _, _, h => by simp [encInt] at h
  | x :: a, y :: b, ha, hb, h => by
    rw [List.flatMap_cons, List.flatMap_cons] at h
    obtain ⟨rfl, h2⟩ := enc_head (ha x (by simp)) (hb y (by simp)) h
    rw [flat_inj a b (fun z hz => ha z (by simp [hz])) (fun z hz => hb z (by simp [hz])) h2]
/-- None's bytes begin another's of as many. -/
theorem flat_prefix : ∀ (a b : List Int) (r : List UInt8), AllFit a → AllFit b → a.length = b.length → b.flatMap encInt = a.flatMap encInt ++ r → a = b
  | [], [], _, _, _, _, _ => rfl
  | [], _ :: _, _, _, _, h, _ => by simp at h
  | _ :: _, [], _, _, _, h, _ => by simp at h
  | x :: a, y :: b, r, ha, hb, hl, h => by
    rw [List.flatMap_cons, List.flatMap_cons, List.append_assoc] at h
    obtain ⟨rfl, h2⟩ := enc_head (hb y (by simp)) (ha x (by simp)) h
    rw [flat_prefix a b r (fun z hz => ha z (by simp [hz])) (fun z hz => hb z (by simp [hz])) (by simpa using hl) h2]
end Go.Proofs.YteaacodloabdcaaGreatDoor

namespace Go.Proofs.YteaacodloabdcaaGreatDoor
open Go.RowKit Go.Maps

/-- A Writer stays while other blocks turn. -/
theorem WrAt.keeps {S : Nat → Prop} {w w' : World} {wb base : Nat} {s : List UInt8} {a : Option Addr} {c : Nat} (h : WrAt w wb base s a c) (hk : Keeps S w w') (s1 : ¬ S wb) (s2 : ∀ g, (Value.slice a s.length c).ownBlock = some g → ¬ S g) : WrAt w' wb base s a c := {
  c0 := (hk.cell (p := ⟨wb, 0, none⟩) h.lt s1).trans h.c0
  f0 := (hk.frozen (p := ⟨wb, 0, none⟩) h.lt s1).trans h.f0
  row := by
    obtain ⟨hl, ⟨e, h0⟩ | ⟨g, cap, cur, e, r1, r2, r3⟩⟩ := h.row
    · exact ⟨hl, Or.inl ⟨e, h0⟩⟩
    · refine ⟨hl, Or.inr ⟨g, cap, cur, e, r1, ?_, r3⟩⟩
      rw [hk.block g (Array.getElem?_eq_some_iff.1 r2).1 (s2 g (by rw [e]; rfl))]; exact r2
  bs := Nat.le_trans h.bs hk.size
  ne := h.ne }

/-- Int of no numbers. -/
theorem int_zero {w : World} {wb : Nat} (ka : Option Addr) (kc : Nat) :
    Calls Tryz.prog 63 #[.pointer (some ⟨wb, 0, none⟩), .slice ka 0 kc] w fun e w' => e = .returned (.tuple #[]) ∧ w' = w := by
  go_enter Tryz.func63, Tryz.ntmps63
  go_wp2
  refine wp_loop_rounds 1 ?_
  rw [rounds_succ]
  go_wp2
  first | go_end0 | refine bodyPost_ret (results_none rfl _ _ _) rfl ?_
  exact ⟨rfl, rfl⟩
end Go.Proofs.YteaacodloabdcaaGreatDoor
