import Derived.Test.YtlmdeafmlommeaaGreatDoorBgC
namespace Go.Proofs.YtlmdeafmlommeaaGreatDoor
open Go.RowKit Go.Maps

set_option maxRecDepth 100000 in
theorem reset_calm_at {w : World} {lb db nb mb n cap sb : Nat} {B : List UInt8} {k : Nat} {a' z' x' y' : Int} (h : LgAt w lb db n sb false a' z' x' y') (hd : DevAt w db nb mb n cap B k (.map []) 0 false) (hS : SlAt w sb db false) (hne : sb ≠ db ∧ sb ≠ nb ∧ sb ≠ mb) (hlne : lb ≠ db ∧ lb ≠ nb ∧ lb ≠ mb ∧ lb ≠ sb) (hk : k ≤ 1000) {a : Nat} {R : List (List UInt8)} {x y : Int} (hlog : LogOn n B a R x y) (x2 y2 : Int) (hf : AllFit [x2, y2]) : Calls Tryz.prog 19 #[.pointer (some ⟨lb, 0, none⟩), .int .i64 x2, .int .i64 y2] w fun e w' => ∃ mb' k' B' q, e = .returned (.int .i64 0) ∧ DevAt w' db nb mb' n cap B' k' (.map []) 0 false ∧ k' ≤ k + 1 ∧ (mb' = mb ∨ w.heap.size ≤ mb') ∧ Keeps (fun i => i = db ∨ i = nb ∨ i = mb ∨ i = sb ∨ i = lb) w w' ∧ SlAt w' sb db false ∧ LgAt w' lb db n sb false a' z' x' y' ∧ LogOn n B' q [] x2 y2 := by
  have hn1 := hd.n1
  have hn2 := hd.n2
  refine (reset_at h hd hS hne hlne hk a (encR R).length x y hlog.tl hlog.al hlog.sz x2 y2 hf).mono ?_
  rintro e w8 ⟨code, mb8, k8, B8, D8, left8, down8, rfl, hd8, hk8, hm8, hK8, hO8, hSl8, hL8, _⟩
  have hq : (a + (encR R).length) % ringN n < ringN n := Nat.mod_lt _ (by have := hlog.al; omega)
  have hf4 : AllFit [(((a + (encR R).length) % ringN n : Nat) : Int), 0, x2, y2] := fit4 (z := 0) hn2 hq (by omega) hf
  obtain ⟨rfl, hg⟩ := save_good hlog.len (by omega) (by simp) hf4 hO8
  rcases reset_lasts hn1 hn2 hlog hf hO8 with ⟨_, r2, r3⟩ | ⟨e, _⟩
  · obtain ⟨rfl, rfl, rfl⟩ : D8 = .map [] ∧ left8 = 0 ∧ down8 = false := ⟨hg.d, hg.l, hg.dn⟩
    exact ⟨mb8, k8, B8, _, rfl, hd8, hk8, hm8, hK8, hSl8, hL8 rfl, r3⟩
  · cases e
/-- Numbers that tell of no text. -/
def badA (n : Nat) (x y : Int) : Prop := (x ≠ 0 ∧ x ≠ 1 ∧ x ≠ 2) ∨ ((x = 1 ∨ x = 2) ∧ (y < 0 ∨ ((n / 4 * 64 : Nat) : Int) < y))
set_option maxRecDepth 100000 in
set_option maxHeartbeats 1000000 in
theorem sget_bad {w : World} {lb db nb mb n cap sb : Nat} {B : List UInt8} {k : Nat} {D : DataW Unit} {left : Int} {down : Bool} {a' z' x' y' : Int} (h : LgAt w lb db n sb false a' z' x' y') (hd : DevAt w db nb mb n cap B k D left down) {a : Nat} {R : List (List UInt8)} {x y : Int} (hlog : LogOn n B a R x y) (hbad : badA n x y) : Calls Tryz.prog 27 #[.pointer (some ⟨db, 0, none⟩), .pointer (some ⟨lb, 0, none⟩)] w fun e w' => e = .returned (.tuple #[.slice none 0 0, .int .i64 10]) ∧ Below w.heap.size w w' := by
  have hn2 := hd.n2
  have HA : Hid (Calls Tryz.prog 23 #[.pointer (some ⟨lb, 0, none⟩)] w fun e w' => e = .returned (.tuple #[.int .i64 x, .int .i64 y]) ∧ Below w.heap.size w w') := area_at h hd a (encR R).length x y hlog.tl hlog.al hlog.sz
  have HC0 : Hid (∀ W, Below w.heap.size w W → W.cell? ⟨db, 0, none⟩ = some (.slice (some ⟨nb, 0, none⟩) n cap)) := fun W hW => (hd.keeps (Keeps.of_below (S := fun _ => False) hW) (fun e => e) (fun e => e) (fun e => e)).c0
  clear h hd hlog
  rcases hbad with ⟨h0, h1, h2⟩ | ⟨hx, hy⟩
  · have hdec : decide (x = 0 ∨ x = 1 ∨ x = 2) = false := by simp [h0, h1, h2]
    clear h0 h1 h2
    go_enter Tryz.func27, Tryz.ntmps27
    go_wp2_with fail
    refine HA.out.mono ?_
    rintro e w2 ⟨rfl, hb2⟩
    go_wp2_with fail
    refine (isarea_at x w2).mono ?_
    rintro e w3 ⟨rfl, hw3⟩
    subst hw3
    rw [hdec]
    go_wp2_with fail
    go_ret2
    exact ⟨rfl, hb2⟩
  · have hdec : decide (x = 0 ∨ x = 1 ∨ x = 2) = true := by rcases hx with rfl | rfl <;> rfl
    have hx0 : (x != 0) = true := by rcases hx with rfl | rfl <;> rfl
    have hx1 : (x == 0) = false := by rcases hx with rfl | rfl <;> rfl
    clear hx
    rcases hy with hy | hy
    · go_enter Tryz.func27, Tryz.ntmps27
      go_wp2_with fail
      refine HA.out.mono ?_
      rintro e w2 ⟨rfl, hb2⟩
      go_wp2_with fail
      refine (isarea_at x w2).mono ?_
      rintro e w3 ⟨rfl, hw3⟩
      subst hw3
      rw [hdec]
      go_wp2_with fail
      go_ret2
      exact ⟨rfl, hb2⟩
    · have hy0 : 0 ≤ y := by omega
      go_enter Tryz.func27, Tryz.ntmps27
      go_wp2_with fail
      refine HA.out.mono ?_
      rintro e w2 ⟨rfl, hb2⟩
      go_wp2_with fail
      refine (isarea_at x w2).mono ?_
      rintro e w3 ⟨rfl, hw3⟩
      subst hw3
      rw [hdec]
      clear hdec
      go_wp2_with fail
      refine (most_at (HC0.out w3 hb2) hn2).mono ?_
      rintro e w4 ⟨rfl, hw4⟩
      subst hw4
      go_wp2_with fail
      go_ret2
      exact ⟨rfl, hb2⟩
end Go.Proofs.YtlmdeafmlommeaaGreatDoor
