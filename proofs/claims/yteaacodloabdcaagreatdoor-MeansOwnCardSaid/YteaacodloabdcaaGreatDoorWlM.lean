import Derived.Test.YteaacodloabdcaaGreatDoorWlG
namespace Go.Proofs.YteaacodloabdcaaGreatDoor
open Go.RowKit Go.Maps

/-- What an Append leaves. -/
def ApP (lb sb db nb mb n cap : Nat) (B : List UInt8) (k : Nat) (left : Int) (down : Bool) (a z : Nat) (x y : Int) (s : List UInt8) (a' z' x' y' : Int) (w : World) (e : Ending) (w' : World) : Prop :=
  ∃ code mb' k' B' D' left' down', e = .returned (.int .i64 code) ∧ DevAt w' db nb mb' n cap B' k' D' left' down' ∧ k' ≤ k + 1100 ∧ (code = 0 → k' ≤ 1) ∧ (mb' = mb ∨ w.heap.size ≤ mb') ∧ Keeps (fun i => i = db ∨ i = nb ∨ i = mb ∨ i = sb ∨ i = lb) w w' ∧ ApO n B left down a z x y s code B' D' left' down' ∧ (∃ ov, SlAt w' sb db ov ∧ (code = 0 → ov = false)) ∧ (code = 0 → LgAt w' lb db n sb false a' z' x' y') ∧ (code ≠ 0 → LgAt w' lb db n sb true a z x y)
theorem append_over {w : World} {lb db n sb : Nat} {a z x y : Int} (h : LgAt w lb db n sb true a z x y) (v : Value) : Calls Tryz.prog 85 #[.pointer (some ⟨lb, 0, none⟩), v] w fun e w' => e = .returned (.int .i64 9) ∧ w' = w := by
  go_enter Tryz.func85, Tryz.ntmps85
  go_wp2_with fail
  refine (dead_at h).mono ?_
  rintro e w1 ⟨rfl, hw1⟩
  subst hw1
  go_wp2_with fail
  go_ret
  exact ⟨rfl, rfl⟩
theorem append_form {w : World} {lb db n sb : Nat} {a z x y : Int} (h : LgAt w lb db n sb false a z x y) (ka : Option Addr) (kl kc : Nat) (hl : kl < 1 ∨ 1000 < kl) : Calls Tryz.prog 85 #[.pointer (some ⟨lb, 0, none⟩), .slice ka kl kc] w fun e w' => e = .returned (.int .i64 1) ∧ w' = w := by
  rcases hl with hl | hl
  · go_enter Tryz.func85, Tryz.ntmps85
    go_wp2_with fail
    refine (dead_at h).mono ?_
    rintro e w1 ⟨rfl, hw1⟩
    subst hw1
    go_wp2_with fail
    go_ret
    exact ⟨rfl, rfl⟩
  · go_enter Tryz.func85, Tryz.ntmps85
    go_wp2_with fail
    refine (dead_at h).mono ?_
    rintro e w1 ⟨rfl, hw1⟩
    subst hw1
    go_wp2_with fail
    go_ret
    exact ⟨rfl, rfl⟩
set_option maxRecDepth 100000 in
set_option maxHeartbeats 1000000 in
theorem append_full {w : World} {lb db nb mb n cap sb : Nat} {B : List UInt8} {k : Nat} {D : DataW Unit} {left : Int} {down : Bool} {a' z' x' y' : Int} (h : LgAt w lb db n sb false a' z' x' y') (hd : DevAt w db nb mb n cap B k D left down) (a z : Nat) (x y : Int) (ht : told B = some [(a : Int), z, x, y]) (ha : a < ringN n) (hz : z ≤ ringN n) (ka : Option Addr) (kl kc : Nat) (hl : 1 ≤ kl ∧ kl ≤ 1000) (hr : ringN n < z + (kl + 2)) : Calls Tryz.prog 85 #[.pointer (some ⟨lb, 0, none⟩), .slice ka kl kc] w fun e w' => e = .returned (.int .i64 5) ∧ Below w.heap.size w w' := by
  obtain ⟨hl1, hl2⟩ := hl
  go_enter Tryz.func85, Tryz.ntmps85
  go_wp2_with fail
  refine (dead_at h).mono ?_
  rintro e w1 ⟨rfl, hw1⟩
  subst hw1
  go_wp2_with fail
  refine (room_at h hd a z x y ht ha hz).mono ?_
  rintro e w2 ⟨rfl, hb2⟩
  clear h hd
  generalize ringN n = R at *
  go_wp2_with fail
  go_ret
  exact ⟨rfl, hb2⟩
end Go.Proofs.YteaacodloabdcaaGreatDoor

namespace Go.Proofs.YteaacodloabdcaaGreatDoor
open Go.RowKit Go.Maps

set_option maxRecDepth 100000 in
set_option maxHeartbeats 2000000 in
theorem append_at {w : World} {lb db nb mb n cap sb : Nat} {B : List UInt8} {k : Nat} {left : Int} {down : Bool} {a' z' x' y' : Int} (h : LgAt w lb db n sb false a' z' x' y') (hd : DevAt w db nb mb n cap B k (.map []) left down) (hS : SlAt w sb db false) (hne : sb ≠ db ∧ sb ≠ nb ∧ sb ≠ mb) (hlne : lb ≠ db ∧ lb ≠ nb ∧ lb ≠ mb ∧ lb ≠ sb) (hk : k ≤ 1000) (a z : Nat) (x y : Int) (ht : told B = some [(a : Int), z, x, y]) (ha : a < ringN n) (hf : AllFit [x, y]) (g o bc : Nat) (s : List UInt8) (hs0 : 1 ≤ s.length) (hs1 : s.length ≤ 1000) (hz : z + (s.length + 2) ≤ ringN n) (hsrc : w.rangeAt g o (bytesV s)) : Calls Tryz.prog 85 #[.pointer (some ⟨lb, 0, none⟩), .slice (some ⟨g, o, none⟩) s.length bc] w (ApP lb sb db nb mb n cap B k left down a z x y s a' z' x' y' w) := by
  have hll := h.lt
  have hn2 := hd.n2
  have hrb : ringN n ≤ 200000 := by unfold ringN; omega
  have hdl := hd.dlt
  have hnl := hd.nlt
  have hml := hd.mlt
  have hsl := hS.lt
  have hgl : g < w.heap.size := World.block_lt_of_cell? w _ (hsrc 0 _ (List.getElem?_eq_getElem (show 0 < (bytesV s).length by rw [bytesV_length]; omega)))
  go_enter Tryz.func85, Tryz.ntmps85
  go_wp2_with fail
  refine (dead_at h).mono ?_
  rintro e w1 ⟨rfl, hw1⟩
  subst hw1
  have HS0 : Hid (w1.rangeAt g o (bytesV s)) := hsrc
  clear hsrc
  go_wp2_with fail
  refine (room_at h hd a z x y ht ha (by omega)).mono ?_
  rintro e w2 ⟨rfl, hb2⟩
  have hK2 := Keeps.of_below (S := fun _ => False) hb2
  have h2 := h.keeps hK2 (fun e => e)
  have hd2 := hd.keeps hK2 (fun e => e) (fun e => e) (fun e => e)
  have hs2 := hb2.size
  generalize hR : ringN n = R at *
  go_wp2_with fail
  refine (now_at h2 hd2 a z x y ht (by omega) (by omega)).mono ?_
  rintro e w3 ⟨rfl, hb3⟩
  unfold mkV
  go_wp2_with fail
  have hs3 := hb3.size
  have hb13 : Below w1.heap.size w1 w3 := hb2.trans (hb3.mono hs2)
  have hqR : (a + z) % R < R := Nat.mod_lt _ (by omega)
  have hbB : Below w1.heap.size w1 (w3.alloc (.cells #[.int .i64 (a : Int), .int .i64 (z : Int), .int .i64 x, .int .i64 y] 183)) := hb13.alloc (by omega) _
  have hsB : (w3.alloc (.cells #[.int .i64 (a : Int), .int .i64 (z : Int), .int .i64 x, .int .i64 y] 183)).heap.size = w3.heap.size + 1 := by simp
  have hB1 := heap_alloc_last w3 (.cells #[.int .i64 (a : Int), .int .i64 (z : Int), .int .i64 x, .int .i64 y] 183)
  generalize w3.alloc (.cells #[.int .i64 (a : Int), .int .i64 (z : Int), .int .i64 x, .int .i64 y] 183) = wB at hbB hsB hB1 ⊢
  have hbox : ∀ (S : Nat → Prop) W, Keeps S wB W → ¬ S w3.heap.size → W.cell? ⟨w3.heap.size, 0, none⟩ = some (.int .i64 (a : Int)) ∧ W.cell? ⟨w3.heap.size, 1, none⟩ = some (.int .i64 (z : Int)) ∧ W.cell? ⟨w3.heap.size, 2, none⟩ = some (.int .i64 x) ∧ W.cell? ⟨w3.heap.size, 3, none⟩ = some (.int .i64 y) := fun S W hk s2 => by
    have hh := (hk.block w3.heap.size (by omega) s2).trans hB1
    exact ⟨by rw [cell_of_row _ _ 0 _ 183 (0, 0) hh]; rfl, by rw [cell_of_row _ _ 1 _ 183 (0, 0) hh]; rfl, by rw [cell_of_row _ _ 2 _ 183 (0, 0) hh]; rfl, by rw [cell_of_row _ _ 3 _ 183 (0, 0) hh]; rfl⟩
  have hKB := Keeps.of_below (S := fun _ => False) hbB
  have hBl := h.keeps hKB (fun e => e)
  have hBd := hd.keeps hKB (fun e => e) (fun e => e) (fun e => e)
  have hBs := hS.keeps hKB (fun e => e)
  have HC : Hid (∀ W, Below wB.heap.size wB W → W.cell? ⟨lb, 1, none⟩ = some (.int .i64 (R : Int)) ∧ W.cell? ⟨w3.heap.size, 0, none⟩ = some (.int .i64 (a : Int)) ∧ W.cell? ⟨w3.heap.size, 1, none⟩ = some (.int .i64 (z : Int)) ∧ W.cell? ⟨w3.heap.size, 2, none⟩ = some (.int .i64 x) ∧ W.cell? ⟨w3.heap.size, 3, none⟩ = some (.int .i64 y)) := fun W hW => ⟨by rw [← hR]; exact (hBl.keeps (Keeps.of_below (S := fun _ => False) hW) (fun e => e)).c1, hbox (fun _ => False) W (Keeps.of_below hW) (fun e => e)⟩
  have HLay : Hid (∀ W, Below wB.heap.size wB W → Calls Tryz.prog 127 #[.pointer (some ⟨lb, 0, none⟩), .int .i64 (((a + z) % R : Nat) : Int), .slice (some ⟨g, o, none⟩) s.length bc] W fun e w' => ∃ code, e = .returned (.int .i64 code) ∧ (w'.cell? ⟨lb, 1, none⟩ = some (.int .i64 (R : Int)) ∧ w'.cell? ⟨w3.heap.size, 0, none⟩ = some (.int .i64 (a : Int)) ∧ w'.cell? ⟨w3.heap.size, 1, none⟩ = some (.int .i64 (z : Int)) ∧ w'.cell? ⟨w3.heap.size, 2, none⟩ = some (.int .i64 x) ∧ w'.cell? ⟨w3.heap.size, 3, none⟩ = some (.int .i64 y)) ∧ Hid (LyP db nb mb n cap B k left down ((a + z) % R) (encR1 s) wB (.returned (.int .i64 code)) w' ∧ LgAt w' lb db n sb false a' z' x' y' ∧ SlAt w' sb db false)) := by
    intro W hW
    have hKW := Keeps.of_below (S := fun _ => False) hW
    have hsW := hW.size
    have hsrcW : W.rangeAt g o (bytesV s) := fun j v hv => (hW.cell (p := ⟨g, o + j, none⟩) (by show g < _; omega)).trans ((hbB.cell (p := ⟨g, o + j, none⟩) (by show g < _; omega)).trans (HS0.out j v hv))
    refine (llay_at (hBl.keeps hKW (fun e => e)) (hBd.keeps hKW (fun e => e) (fun e => e) (fun e => e)) ⟨hlne.1, hlne.2.1, hlne.2.2.1⟩ ((a + z) % R) (by rw [hR]; exact hqR) g o bc s (by rw [hR]; omega) hs1 hsrcW hk (AlikeW.nil _ _)).mono ?_
    rintro e w' ⟨code, mb', k', B', D', left', down', d, rfl, q1, q2, q3, q4, q5, q6, q7⟩
    have hK' : Keeps (fun i => i = db ∨ i = nb ∨ i = mb) wB w' := (Keeps.of_below hW).trans q4
    have hl' := hBl.keeps hK' (by omega)
    exact ⟨code, rfl, ⟨by rw [← hR]; exact hl'.c1, hbox _ w' hK' (by omega)⟩, ⟨code, mb', k', B', D', left', down', d, rfl, q1, q2, by omega, hK', q5, q6, q7⟩, hl', hBs.keeps hK' (by omega)⟩
  have HB1 : Hid (wB.heap[w3.heap.size]? = some (.cells #[.int .i64 (a : Int), .int .i64 (z : Int), .int .i64 x, .int .i64 y] 183)) := hB1
  clear h hd hS hBl hBd hBs hKB hbox hB1 h2 hd2 hK2 hb2 hb3 hb13
  have sc0 := HC.out wB (Below.refl _ _)
  refine wp_region_noPanic ?_
  go_region_held (fun w' => w'.cell? ⟨lb, 1, none⟩ = some (.int .i64 (R : Int)) ∧ w'.cell? ⟨w3.heap.size, 0, none⟩ = some (.int .i64 (a : Int)) ∧ w'.cell? ⟨w3.heap.size, 1, none⟩ = some (.int .i64 (z : Int)) ∧ w'.cell? ⟨w3.heap.size, 2, none⟩ = some (.int .i64 x) ∧ w'.cell? ⟨w3.heap.size, 3, none⟩ = some (.int .i64 y))
    (first | assumption | exact sc0 | exact HC.out _ (by assumption))
    (first
      | (have hold := HN7.out; clear hold; go_at_call 127; refine (HLay.out w7 hb7').mono ?_; rintro e w8 ⟨code, rfl, hS8, HQ⟩)
      | (go_at_call 128; refine (end_at a z R x y (by omega) (by omega) (by omega) (by omega) _).mono ?_; rintro e w7 ⟨rfl, hb7⟩; have hb7' : Below wB.heap.size wB w7 := ⟨hb7.os, hb7.tape, hb7.output, hb7.size, hb7.block⟩; have HN7 : Hid True := trivial))
  refine NoPanic.normal ?_
  clear HLay HC sc0 hb7 hb7' HN7
  obtain ⟨-, v0, v1, v2, v3⟩ := hS8
  obtain ⟨⟨c8, mb8, k8, B8, D8, left8, down8, d8, e8, q1, q2, q3, q4, q5, q6, q7⟩, hl8, hsl8⟩ := HQ.out
  have e9 : code = c8 := by injection e8 with e8; injection e8 with _ e8
  subst e9
  clear e8 HQ
  have hs8 := q4.size
  by_cases hc : code = 0
  · subst hc
    obtain ⟨-, rfl, rfl, rfl⟩ : (0 : Int) = 0 ∧ d8 = (encR1 s).length ∧ k8 = 0 ∧ D8 = .map [] := by
      rcases q7 with h | ⟨h, _⟩
      · exact h
      · cases h
    have y0 := (World.cell?_alloc_lt w8 (.cells #[.int .i64 (a : Int), .int .i64 ((z : Int) + (2 + (s.length : Int))), .int .i64 x, .int .i64 y] 183) ⟨w3.heap.size, 0, none⟩ (by show w3.heap.size < _; omega)).trans v0
    have y1 := (World.cell?_alloc_lt w8 (.cells #[.int .i64 (a : Int), .int .i64 ((z : Int) + (2 + (s.length : Int))), .int .i64 x, .int .i64 y] 183) ⟨w3.heap.size, 1, none⟩ (by show w3.heap.size < _; omega)).trans v1
    have y2 := (World.cell?_alloc_lt w8 (.cells #[.int .i64 (a : Int), .int .i64 ((z : Int) + (2 + (s.length : Int))), .int .i64 x, .int .i64 y] 183) ⟨w3.heap.size, 2, none⟩ (by show w3.heap.size < _; omega)).trans v2
    have y3 := (World.cell?_alloc_lt w8 (.cells #[.int .i64 (a : Int), .int .i64 ((z : Int) + (2 + (s.length : Int))), .int .i64 x, .int .i64 y] 183) ⟨w3.heap.size, 3, none⟩ (by show w3.heap.size < _; omega)).trans v3
    have hbA : Below w8.heap.size w8 (w8.alloc (.cells #[.int .i64 (a : Int), .int .i64 ((z : Int) + (2 + (s.length : Int))), .int .i64 x, .int .i64 y] 183)) := (Below.refl _ _).alloc (Nat.le_refl _) _
    have hKA := Keeps.of_below (S := fun _ => False) hbA
    have hlA := hl8.keeps hKA (fun e => e)
    have hdA := q1.keeps hKA (fun e => e) (fun e => e) (fun e => e)
    have hsA := hsl8.keeps hKA (fun e => e)
    have hbs := hbB.size
    have hf4 : AllFit [(a : Int), (z : Int) + (2 + (s.length : Int)), x, y] := by
      have := fit4 (n := n) (a := a) (z := z + (s.length + 2)) hn2 (by omega) (by omega) hf
      have e : (((z + (s.length + 2) : Nat)) : Int) = (z : Int) + (2 + (s.length : Int)) := by omega
      rw [e] at this
      exact this
    have HSet : Hid (Calls Tryz.prog 130 #[.pointer (some ⟨lb, 0, none⟩), mkV a z x y, mkV a ((z : Int) + (2 + (s.length : Int))) x y] (w8.alloc (.cells #[.int .i64 (a : Int), .int .i64 ((z : Int) + (2 + (s.length : Int))), .int .i64 x, .int .i64 y] 183)) (ApP lb sb db nb mb n cap B k left down a z x y s a' z' x' y' w1)) := by
      show Calls _ _ _ _ _
      refine (lset_at hlA hdA hsA ⟨hne.1, hne.2.1, by omega⟩ ⟨hlne.1, hlne.2.1, by omega, hlne.2.2.2⟩ (by omega) a z x y a ((z : Int) + (2 + (s.length : Int))) x y hf4).mono ?_
      rintro e w' ⟨code, mb', k', B', D', left', down', rfl, r1, r2, r3, r4, r5, r6, r7, r8⟩
      have hK18 : Keeps (fun i => i = db ∨ i = nb ∨ i = mb ∨ i = sb ∨ i = lb) w1 w8 := (Keeps.of_below hbB).trans2 q4 (fun i e => by omega)
      have hszA := hbA.size
      have e : (((z + (s.length + 2) : Nat)) : Int) = (z : Int) + (2 + (s.length : Int)) := by omega
      refine ⟨code, mb', k', B', D', left', down', rfl, r1, by omega, fun _ => by omega, by omega, hK18.trans2 ((Keeps.of_below hbA).trans r4) (fun i e => by omega), Or.inr ⟨B8, left8, down8, by rw [hR]; exact q5, fun e1 e2 => (q6 e1 e2).2, by rw [e]; exact r5⟩, ⟨_, r6, fun hc => by rw [hc]; rfl⟩, r7, r8⟩
    unfold mkV at HSet
    clear q1 q2 q3 q4 q5 q6 q7 hl8 hsl8 hbA hKA hlA hdA hsA hf4 v0 v1 v2 v3
    go_wp2_with fail
    refine HSet.out.mono ?_
    intro e w9 h9
    have HP : Hid (ApP lb sb db nb mb n cap B k left down a z x y s a' z' x' y' w1 e w9) := h9
    obtain ⟨code9, _, _, _, _, _, _, rfl, _⟩ := h9
    clear HSet
    go_wp2_with fail
    go_ret
    exact HP.out
  · have hz' : (code != 0) = true := by simp [hc]
    have HC0 : Hid (code ≠ 0) := hc
    obtain ⟨rfl, rfl⟩ : code = 9 ∧ down8 = true := by
      rcases q7 with ⟨h, _⟩ | h
      · exact absurd h hc
      · exact h
    clear hc
    have HP : Hid (∀ w9, LgAt w9 lb db n sb true a z x y → Keeps (fun i => i = lb) w8 w9 → ApP lb sb db nb mb n cap B k left down a z x y s a' z' x' y' w1 (.returned (.int .i64 9)) w9) := by
      intro w9 hl9 hk9
      have hbs := hbB.size
      have hK18 : Keeps (fun i => i = db ∨ i = nb ∨ i = mb ∨ i = sb ∨ i = lb) w1 w8 := (Keeps.of_below hbB).trans2 q4 (fun i e => by omega)
      have hlen : (encR1 s).length = s.length + 2 := rfl
      exact ⟨9, mb8, k8, B8, D8, left8, true, rfl, q1.keeps hk9 (by omega) (by omega) (by omega), by omega, fun e => (by cases e), by omega, hK18.trans (hk9.mono (fun i e => by omega)), Or.inl ⟨rfl, rfl, fun e1 e2 => (by have := (q6 e1 e2).1; cases this), d8, by rw [hR]; exact q5⟩, ⟨false, hsl8.keeps hk9 (by omega), fun _ => rfl⟩, fun e => (by cases e), fun _ => hl9⟩
    clear q1 q2 q3 q4 q5 q6 q7 hsl8
    go_wp2_with fail
    refine (fall_at hl8 a z x y 9).mono ?_
    rintro e w9 ⟨rfl, hL9, hK9⟩
    have HP9 : Hid (ApP lb sb db nb mb n cap B k left down a z x y s a' z' x' y' w1 (.returned (.int .i64 9)) w9) := HP.out w9 hL9 hK9
    clear HP hL9 hK9
    go_wp2_with fail
    go_ret
    exact HP9.out
end Go.Proofs.YteaacodloabdcaaGreatDoor

namespace Go.Proofs.YteaacodloabdcaaGreatDoor
open Go.RowKit Go.Maps

/-- What the log's Make leaves. -/
def WmP (db nb mb n cap : Nat) (B : List UInt8) (k : Nat) (D : DataW Unit) (left : Int) (down : Bool) (w : World) (e : Ending) (w' : World) : Prop :=
  ∃ code pv mb' k' B' D' left' down', e = .returned (.tuple #[.pointer pv, .int .i64 code]) ∧ DevAt w' db nb mb' n cap B' k' D' left' down' ∧ k' ≤ k + 2 ∧ (mb' = mb ∨ w.heap.size ≤ mb') ∧ Keeps (fun x => x = db ∨ x = nb ∨ x = mb) w w' ∧ MakeO B D left down [0, 0, 0, 0] code B' D' left' down' ∧ (code ≠ 0 → pv = none) ∧ (code = 0 → ∃ lb sb, pv = some ⟨lb, 0, none⟩ ∧ w.heap.size ≤ lb ∧ w.heap.size ≤ sb ∧ lb ≠ sb ∧ LgAt w' lb db n sb false 0 0 0 0 ∧ SlAt w' sb db false ∧ (sb ≠ db ∧ sb ≠ nb ∧ sb ≠ mb') ∧ (lb ≠ db ∧ lb ≠ nb ∧ lb ≠ mb' ∧ lb ≠ sb))
theorem fit0 : AllFit [0, 0, 0, 0] := fun q hq => by simp at hq; omega
theorem lg_new (w : World) (db n sb : Nat) : LgAt (w.alloc (.cells #[.pointer (some ⟨db, 0, none⟩), .int .i64 (ringN n : Int), .pointer (some ⟨sb, 0, none⟩), .bool false, .int .i64 0, .int .i64 0, .int .i64 0, .int .i64 0] 189)) w.heap.size db n sb false 0 0 0 0 := by
  have h := heap_alloc_last w (.cells #[.pointer (some ⟨db, 0, none⟩), .int .i64 (ringN n : Int), .pointer (some ⟨sb, 0, none⟩), .bool false, .int .i64 0, .int .i64 0, .int .i64 0, .int .i64 0] 189)
  exact ⟨by rw [cell_of_row _ _ 0 _ 189 (0, 0) h]; rfl, by rw [cell_of_row _ _ 1 _ 189 (0, 0) h]; rfl, by rw [cell_of_row _ _ 2 _ 189 (0, 0) h]; rfl, by rw [cell_of_row _ _ 3 _ 189 (0, 0) h]; rfl, by rw [cell_of_row _ _ 4 _ 189 (0, 0) h]; rfl, by rw [cell_of_row _ _ 5 _ 189 (0, 0) h]; rfl, by rw [cell_of_row _ _ 6 _ 189 (0, 0) h]; rfl, by rw [cell_of_row _ _ 7 _ 189 (0, 0) h]; rfl, fun o => by unfold World.frozen?; rw [h]; simp⟩
set_option maxRecDepth 100000 in
set_option maxHeartbeats 1000000 in
theorem wmake_at {w : World} {db nb mb n cap : Nat} {B : List UInt8} {k : Nat} {D : DataW Unit} {left : Int} {down : Bool} (hd : DevAt w db nb mb n cap B k D left down) (hk : k ≤ 1000) : Calls Tryz.prog 84 #[.pointer (some ⟨db, 0, none⟩)] w (WmP db nb mb n cap B k D left down w) := by
  have hn1 := hd.n1
  have hn2 := hd.n2
  go_enter Tryz.func84, Tryz.ntmps84
  go_wp2_with fail
  refine (sectors_any hd.c0).mono ?_
  rintro e w1 ⟨rfl, hw1⟩
  subst hw1
  go_wp2_with fail
  refine (numbers_at 0 0 0 0 w1 fit0).mono ?_
  rintro e w2 ⟨g2, rfl, hg2, hI2, hb2⟩
  go_wp2_with fail
  have hs2 := hb2.size
  have hdl := hd.dlt
  have hnl := hd.nlt
  have hml := hd.mlt
  have hd2 := hd.keeps (Keeps.of_below (S := fun _ => False) hb2) (fun e => e) (fun e => e) (fun e => e)
  refine (make_at hd2 hk (some ⟨g2, 0, none⟩) 4 [0, 0, 0, 0] (by simp) hI2 (fun b o e _ => by cases e; omega)).mono ?_
  rintro e w3 ⟨code, pv, mb3, k3, B3, D3, left3, down3, rfl, q1, q2, q3, q4, q5, q6, q7⟩
  have hK3 : Keeps (fun x => x = db ∨ x = nb ∨ x = mb) w1 w3 := (Keeps.of_below hb2).trans q4
  have hs3 := q4.size
  by_cases hc : code = 0
  · subst hc
    obtain ⟨sb, rfl, r1, r2, r3, r4, r5⟩ := q7 rfl
    have HQ : Hid (DevAt w3 db nb mb3 n cap B3 k3 D3 left3 down3 ∧ MakeO B D left down [0, 0, 0, 0] 0 B3 D3 left3 down3 ∧ SlAt w3 sb db false ∧ Keeps (fun x => x = db ∨ x = nb ∨ x = mb) w1 w3) := ⟨q1, q5, r2, hK3⟩
    have c0 := q1.c0
    have hl3 := q1.dlt
    have hl3n := q1.nlt
    have hl3m := q1.mlt
    have hsl := r2.lt
    clear q1 q5 q6 q7 r2 hK3 q4 hd hd2 hI2
    go_wp2_with fail
    refine (ringof_at c0 (by omega) hn2).mono ?_
    rintro e w4 ⟨rfl, hb4⟩
    have hs4 := hb4.size
    go_wp2_with fail
    go_ret2
    obtain ⟨q1, q5, r2, hK3⟩ := HQ.out
    have hbE : Below w3.heap.size w3 (w4.alloc (.cells #[.pointer (some ⟨db, 0, none⟩), .int .i64 (ringN n : Int), .pointer (some ⟨sb, 0, none⟩), .bool false, .int .i64 0, .int .i64 0, .int .i64 0, .int .i64 0] 189)) := hb4.alloc hs4 _
    have hKE := Keeps.of_below (S := fun _ => False) hbE
    exact ⟨0, _, mb3, k3, B3, D3, left3, down3, rfl, q1.keeps hKE (fun e => e) (fun e => e) (fun e => e), q2, by omega, hK3.trans (Keeps.of_below hbE), q5, fun e => absurd rfl e, fun _ => ⟨w4.heap.size, sb, rfl, by omega, by omega, by omega, lg_new w4 db n sb, r2.keeps hKE (fun e => e), ⟨by omega, by omega, by omega⟩, ⟨by omega, by omega, by omega, by omega⟩⟩⟩
  · obtain rfl := q6 hc
    have hz : (code != 0) = true := by simp [hc]
    clear q7
    have HP : Hid (WmP db nb mb n cap B k D left down w1 (.returned (.tuple #[.pointer none, .int .i64 code])) w3) := ⟨code, none, mb3, k3, B3, D3, left3, down3, rfl, q1, q2, by omega, hK3, q5, fun _ => rfl, fun e => absurd e hc⟩
    clear q1 q5 q6 hK3 q4 hd hd2 hI2 hc
    go_wp2_with fail
    go_ret2
    exact HP.out
end Go.Proofs.YteaacodloabdcaaGreatDoor

namespace Go.Proofs.YteaacodloabdcaaGreatDoor
open Go.RowKit Go.Maps

/-- Bytes in a block of their own. -/
def BlkAt (w : World) (g : Nat) (r : List UInt8) : Prop := ∃ cur : Array Value, w.heap[g]? = some (.cells cur 5) ∧ cur.toList.take r.length = bytesV r
theorem BlkAt.lt {w : World} {g : Nat} {r : List UInt8} (h : BlkAt w g r) : g < w.heap.size := by
  obtain ⟨cur, h1, _⟩ := h
  exact (Array.getElem?_eq_some_iff.1 h1).1
theorem BlkAt.range {w : World} {g : Nat} {r : List UInt8} (h : BlkAt w g r) : w.rangeAt g 0 (bytesV r) := by
  obtain ⟨cur, hH, htk⟩ := h
  intro j u hj
  rw [← htk, List.getElem?_take] at hj
  split at hj
  · rw [Nat.zero_add, cell_of_row _ _ j _ 5 (0, 0) hH]
    simpa using hj
  · exact absurd hj (by simp)
theorem BlkAt.keep {S : Nat → Prop} {w w' : World} {g : Nat} {r : List UInt8} (h : BlkAt w g r) (hk : Keeps S w w') (hs : ¬ S g) : BlkAt w' g r := by
  have hl := h.lt
  obtain ⟨cur, h1, h2⟩ := h
  exact ⟨cur, (hk.block g hl hs).trans h1, h2⟩
/-- A record in memory. -/
def RecV (w : World) (lo : Nat) (v : Value) (r : List UInt8) : Prop := ∃ g c, v = .slice (some ⟨g, 0, none⟩) r.length c ∧ r.length ≤ c ∧ lo ≤ g ∧ BlkAt w g r
/-- Records in memory. -/
def RecsAt (w : World) (lo : Nat) (v : Value) (R : List (List UInt8)) : Prop := ∃ V : List Value, w.ownsRow lo 67 1 v R.length V ∧ ∀ (j : Nat) (u : Value) (r : List UInt8), V[j]? = some u → R[j]? = some r → RecV w lo u r
theorem RecsAt.nil (w : World) (lo : Nat) : RecsAt w lo (.slice none 0 0) [] := ⟨[], World.ownsRow_nil _ _ _ _, fun j u r h _ => by simp at h⟩
theorem RecV.keep {S : Nat → Prop} {w w' : World} {lo : Nat} {v : Value} {r : List UInt8} (h : RecV w lo v r) (hk : Keeps S w w') (hs : ∀ i, lo ≤ i → ¬ S i) : RecV w' lo v r := by
  obtain ⟨g, c, e, hc, hl, hb⟩ := h
  exact ⟨g, c, e, hc, hl, hb.keep hk (hs g hl)⟩
theorem ownsRow_keep {S : Nat → Prop} {w w' : World} {lo e z n : Nat} {v : Value} {V : List Value} (h : w.ownsRow lo e z v n V) (hk : Keeps S w w') (hs : ∀ i, lo ≤ i → ¬ S i) : w'.ownsRow lo e z v n V := by
  refine ⟨h.1, ?_⟩
  rcases h.2 with q | ⟨g, cap, cur, hv, hb, hg, rest⟩
  · exact .inl q
  · exact .inr ⟨g, cap, cur, hv, hb, (hk.block g (Array.getElem?_eq_some_iff.1 hg).1 (hs g hb)).trans hg, rest⟩
theorem RecsAt.keep {S : Nat → Prop} {w w' : World} {lo : Nat} {v : Value} {R : List (List UInt8)} (h : RecsAt w lo v R) (hk : Keeps S w w') (hs : ∀ i, lo ≤ i → ¬ S i) : RecsAt w' lo v R := by
  obtain ⟨V, h1, h2⟩ := h
  exact ⟨V, ownsRow_keep h1 hk hs, fun j u r a b => (h2 j u r a b).keep hk hs⟩
theorem RecsAt.below {w w' : World} {lo : Nat} {v : Value} {R : List (List UInt8)} (h : RecsAt w lo v R) (hb : Below w.heap.size w w') : RecsAt w' lo v R := h.keep (Keeps.of_below (S := fun _ => False) hb) (fun _ _ e => e)
theorem RecsAt.drewN {w : World} {lo : Nat} {v : Value} {R : List (List UInt8)} (h : RecsAt w lo v R) (q : Nat) : RecsAt (w.drewN q) lo v R := h.keep (keeps_drewN (Keeps.refl (fun _ => False) w) q) (fun _ _ e => e)
/-- A record is put behind the others. -/
theorem RecsAt.push {w w' : World} {lo : Nat} {v v' : Value} {R : List (List UInt8)} {V : List Value} {u : Value} {r : List UInt8} (h1 : w.ownsRow lo 67 1 v R.length V) (h2 : ∀ (j : Nat) (u : Value) (r : List UInt8), V[j]? = some u → R[j]? = some r → RecV w lo u r) (hr : RecV w lo u r) (hO : w'.ownsRow lo 67 1 v' (R.length + 1) (V ++ [u])) (hg : w.grownBy w' v.ownBlock) : RecsAt w' lo v' (R ++ [r]) := by
  have hk : Keeps (fun i => v.ownBlock = some i) w w' := (Keeps.refl _ w).grown hg (fun k e => e)
  have hne : ∀ {u : Value} {r : List UInt8}, RecV w lo u r → RecV w' lo u r := by
    rintro u r ⟨g, c, e, hc, hl, hb⟩
    refine ⟨g, c, e, hc, hl, hb.keep hk (fun hx => ?_)⟩
    obtain ⟨cur, hH, _⟩ := hb
    rcases h1.2 with ⟨rfl, _⟩ | ⟨gr, cap, cur2, rfl, _, hg2, _⟩
    · cases hx
    · cases hx
      rw [hg2] at hH
      cases hH
  refine ⟨V ++ [u], by rw [List.length_append]; exact hO, fun j u' r' a b => ?_⟩
  have hl : V.length = R.length := by have := h1.1; omega
  by_cases hj : j < V.length
  · rw [List.getElem?_append_left hj] at a
    rw [List.getElem?_append_left (by omega)] at b
    exact hne (h2 j u' r' a b)
  · rw [List.getElem?_append_right (by omega)] at a b
    have hj0 : j - V.length = 0 := by
      have := (List.getElem?_eq_some_iff.1 a).1
      simp at this; omega
    rw [hj0] at a
    rw [show j - R.length = 0 by omega] at b
    simp at a b
    subst a b
    exact hne hr
set_option maxRecDepth 100000 in
set_option maxHeartbeats 1000000 in
theorem bclone_at (g o c : Nat) (s : List UInt8) (w : World) (hs : s.length ≤ 1000000) (hsrc : w.rangeAt g o (bytesV s)) :
    Calls Tryz.prog 47 #[.slice (some ⟨g, o, none⟩) s.length c] w fun e w' => ∃ v, e = .returned v ∧ RecV w' w.heap.size v s ∧ Below w.heap.size w w' := by
  obtain ⟨i0, hi, hz0, hz1, hz2⟩ := info_parts info5
  have A : Hid (w.rangeAt g o (bytesV s)) := hsrc
  clear hsrc
  go_enter Tryz.func47, Tryz.ntmps47
  have q33 : ∀ (w : World) (a : Option Addr) (n c n' c' : Nat), (binOp .eql 67 (.slice a n c) (.slice none n' c')).run Tryz.prog w = .ok (.bool a.isNone) w := fun w a n c n' c' => Lib.run_eql_slice_nil w _ _ a n c n' c' Tryz.underlying67
  have hbA : Below w.heap.size w (w.alloc (.cells #[] 5)) := (Below.refl _ w).alloc (Nat.le_refl _) _
  go_wp2_with (at_builtin; refine wpList_append_own _ rfl _ _ 67 rfl w.heap.size 5 i0 (.int .u8 0) 1 1 Tryz.underlying67 hi hz0 hz1 hz2 rfl (by decide) _ 0 _ rfl ⟨by rfl, .inr ⟨w.heap.size, 0, _, rfl, Nat.le_refl _, heap_alloc_new w _, Nat.le_refl _, by unfold maxLen; omega, rfl, rfl⟩⟩ ⟨g, o, none⟩ s.length c (bytesV s) rfl ?qc1 ?qc2 ?qc3 ?qc4 ?qc5 ?qc6 ?_)
  case qc1 => rw [bytesV_length]; try omega
  case qc2 =>
    intro j u hj
    refine Lib.cell?_alloc_some _ ?_
    rw [Addr.add_mid]
    exact A.out j u hj
  case qc3 => exact bytesV_one _
  case qc4 => unfold maxLen; omega
  case qc5 => omega
  case qc6 => simp
  intro v' w1 hown hgrow hnil
  have hb1 : Below w.heap.size w w1 := hbA.grown hgrow (by simp) (by intro k hk; simp [Value.ownBlock] at hk; omega)
  obtain ⟨hxl, hown⟩ := hown
  rcases hown with ⟨rfl, h0⟩ | ⟨g1, c1, cur, rfl, hg1, hH, hc1, hc2, hcs, htk⟩
  · exact absurd rfl hnil
  rw [Nat.mul_one] at htk
  have HR : Hid (RecV w1 w.heap.size (.slice (some ⟨g1, 0, none⟩) s.length c1) s) := ⟨g1, c1, rfl, hc1, hg1, cur, hH, htk⟩
  clear hH htk hcs hxl hgrow hnil A q33
  go_wp2_with fail
  go_ret
  exact ⟨_, rfl, HR.out, hb1⟩
end Go.Proofs.YteaacodloabdcaaGreatDoor

namespace Go.Proofs.YteaacodloabdcaaGreatDoor
open Go.RowKit Go.Maps

theorem encR_len_drop (R : List (List UInt8)) (j : Nat) (h : j < R.length) : encR (R.drop j) = encR1 (R[j]'h) ++ encR (R.drop (j + 1)) := by
  rw [List.drop_eq_getElem_cons h, encR_cons]
theorem encR1_head (r : List UInt8) (h : r.length ≤ 1000) : ∃ l u : Nat, bytesV (encR1 r) = .int .u8 (l : Int) :: .int .u8 (u : Int) :: bytesV r ∧ l < 256 ∧ u < 4 ∧ l + 256 * u = r.length := by
  refine ⟨r.length % 256, r.length / 256, ?_, by omega, by omega, by omega⟩
  unfold encR1 bytesV
  simp only [List.map_cons, bV]
  have e1 : (UInt8.ofNat (r.length % 256)).toNat = r.length % 256 := by rw [UInt8.toNat_ofNat']; omega
  have e2 : (UInt8.ofNat (r.length / 256)).toNat = r.length / 256 := by rw [UInt8.toNat_ofNat']; omega
  rw [e1, e2]
theorem encR_split (R : List (List UInt8)) (j : Nat) : encR R = encR (R.take j) ++ encR (R.drop j) := by
  unfold encR
  rw [← List.flatMap_append, List.take_append_drop]
theorem encR_take_succ (R : List (List UInt8)) (j : Nat) (h : j < R.length) : (encR (R.take (j + 1))).length = (encR (R.take j)).length + ((R[j]'h).length + 2) := by
  rw [List.take_succ_eq_append_getElem h, encR_snoc_len]
theorem range_part {w : World} {g o : Nat} {X Y Z : List UInt8} (h : w.rangeAt g o (bytesV (X ++ (Y ++ Z)))) : w.rangeAt g (o + X.length) (bytesV Y) := by
  intro j v hv
  have hj : j < Y.length := by have := (List.getElem?_eq_some_iff.1 hv).1; rwa [bytesV_length] at this
  have := h (X.length + j) v (by
    rw [bytesV_append, bytesV_append, List.getElem?_append_right (by rw [bytesV_length]; omega), bytesV_length, Nat.add_sub_cancel_left, List.getElem?_append_left (by rw [bytesV_length]; exact hj)]
    exact hv)
  rw [← Nat.add_assoc] at this
  exact this
/-- What a round of split finds. -/
theorem rec_cells {w : World} {g o : Nat} {R : List (List UInt8)} (hR : RecOk R) (h : w.rangeAt g o (bytesV (encR R))) (j : Nat) (hj : j < R.length) : ∃ l u : Nat, w.cell? ⟨g, o + (encR (R.take j)).length, none⟩ = some (.int .u8 (l : Int)) ∧ w.cell? ⟨g, o + (encR (R.take j)).length + 1, none⟩ = some (.int .u8 (u : Int)) ∧ w.rangeAt g (o + (encR (R.take j)).length + 2) (bytesV (R[j]'hj)) ∧ l < 256 ∧ u < 4 ∧ l + 256 * u = (R[j]'hj).length := by
  obtain ⟨l, u, he, hl, hu, hlu⟩ := encR1_head (R[j]'hj) (hR _ (List.getElem_mem hj)).2
  have h2 := range_part (X := encR (R.take j)) (Y := encR1 (R[j]'hj)) (Z := encR (R.drop (j + 1))) (by rw [← encR_len_drop R j hj, ← encR_split]; exact h)
  refine ⟨l, u, ?_, ?_, ?_, hl, hu, hlu⟩
  · exact h2 0 _ (by rw [he]; rfl)
  · exact h2 1 _ (by rw [he]; rfl)
  · intro i v hv
    have := h2 (2 + i) v (by rw [he, Nat.add_comm]; simpa using hv)
    rw [← Nat.add_assoc] at this
    exact this
theorem info44 : (Tryz.prog.info? 67).map (fun i => (i.zero, i.size, i.bytes)) = some (some (.slice none 0 0), 1, 24) := by kernel_rfl
theorem one_newB (w : World) (v : Value) (t : TypeId) : ∀ j u, [v][j]? = some u → (w.alloc (.cells #[v] t)).cell? (Addr.add ⟨w.heap.size, 0, none⟩ j) = some u := by
  intro j u hu
  match j, hu with
  | 0, hu => rw [Addr.add_mid, cell_of_row _ _ (0 + 0) _ t (0, 0) (heap_alloc_last w _)]; simpa using hu
  | k + 1, hu => simp at hu
theorem RecV.lower {w : World} {lo lo' : Nat} {v : Value} {r : List UInt8} (h : RecV w lo v r) (hl : lo' ≤ lo) : RecV w lo' v r := by
  obtain ⟨g, c, e, hc, h2, hb⟩ := h
  exact ⟨g, c, e, hc, by omega, hb⟩
theorem ownBlock_lo {w : World} {lo e z n : Nat} {v : Value} {V : List Value} (h : w.ownsRow lo e z v n V) (k : Nat) (hk : v.ownBlock = some k) : lo ≤ k := by
  rcases h.2 with ⟨rfl, _⟩ | ⟨g, cap, cur, rfl, hb, _⟩
  · cases hk
  · cases hk; exact hb
/-- The state of split. -/
def SpI (R : List (List UInt8)) (j : Nat) (v : Value) (w wr : World) : Prop := RecsAt wr w.heap.size v (R.take j) ∧ Below w.heap.size w wr
set_option maxRecDepth 100000 in
set_option maxHeartbeats 2000000 in
theorem split_at (R : List (List UInt8)) (hR : RecOk R) (g o cc : Nat) (w : World) (hlen : (encR R).length ≤ 1000000) (hcc : (encR R).length ≤ cc ∧ cc ≤ 1000000000) (hg : g < w.heap.size) (hsrc : w.rangeAt g o (bytesV (encR R))) :
    Calls Tryz.prog 133 #[.slice (some ⟨g, o, none⟩) (encR R).length cc] w fun e w' => ∃ v, e = .returned (.tuple #[v, .bool true]) ∧ RecsAt w' w.heap.size v R ∧ Below w.heap.size w w' := by
  have A : Hid (w.rangeAt g o (bytesV (encR R))) := hsrc
  have HRo : Hid (RecOk R) := hR
  clear hsrc hR
  have HI0 : Hid (SpI R 0 (.slice none 0 0) w w) := ⟨RecsAt.nil w _, Below.refl _ _⟩
  go_enter Tryz.func133, Tryz.ntmps133
  go_wp2_with fail
  go_loopw [0, 4] (fun s0 s4 wr => ∃ (j : Nat) (p : Option Addr), j ≤ R.length ∧ s0 = .slice p (encR (R.drop j)).length (cc - (encR (R.take j)).length) ∧ (j < R.length → p = some ⟨g, o + (encR (R.take j)).length, none⟩) ∧ Hid (SpI R j s4 w wr)) (fun s0 _ _ => sLen s0)
  case atStart => exact ⟨0, _, Nat.zero_le _, rfl, fun _ => rfl, HI0⟩
  case round =>
    obtain ⟨j, p, hj, rfl, hpp, HI⟩ := hrel
    clear HI0
    by_cases hlt : j < R.length
    · obtain rfl := hpp hlt
      clear hpp
      obtain ⟨l, u, c0, c1, c2, hl, hu, hlu⟩ := rec_cells HRo.out A.out j hlt
      have hok := HRo.out _ (List.getElem_mem hlt)
      have hlen1 : (encR (R.drop j)).length = ((R[j]'hlt).length + 2) + (encR (R.drop (j + 1))).length := by rw [encR_len_drop R j hlt, List.length_append, encR1_len]
      have hlen2 : (encR R).length = (encR (R.take j)).length + (encR (R.drop j)).length := by rw [← List.length_append, ← encR_split]
      have hnext := encR_take_succ R j hlt
      have hbw := HI.out.2
      have b0 := (hbw.cell (p := ⟨g, o + (encR (R.take j)).length, none⟩) hg).trans c0
      have b1 := (hbw.cell (p := ⟨g, o + (encR (R.take j)).length + 1, none⟩) hg).trans c1
      have C2 : Hid (wr.rangeAt g (o + (encR (R.take j)).length + 2) (bytesV (R[j]'hlt))) := fun i v hv => (hbw.cell (p := ⟨g, _, none⟩) hg).trans (c2 i v hv)
      have HNe : Hid ((encR (R.take (j + 1))).length = (encR (R.take j)).length + ((R[j]'hlt).length + 2)) := hnext
      rw [hlen1] at hlen2 ⊢
      clear hlen1 hnext c0 c1 c2 hbw
      generalize hm : (R[j]'hlt).length = m at *
      generalize hd : (encR (R.take j)).length = d at *
      generalize hr : (encR (R.drop (j + 1))).length = rl at *
      generalize hE : (encR R).length = el at *
      go_wp2_with fail
      go_quiet (fail)
      have hlm : (l : Int) + (u : Int) * 256 = (m : Int) := by omega
      rw [hlm]
      obtain ⟨hSp, hSb⟩ := HI.out
      have HI' : Hid (SpI R j u4 w (wr.drewN nq)) := ⟨hSp.drewN nq, below_drewN hSb⟩
      have C2' : Hid ((wr.drewN nq).rangeAt g (o + d + 2) (bytesV R[j])) := C2.out
      clear HI C2 b0 b1 hlm hSp hSb
      generalize wr.drewN nq = wq at HI' C2' ⊢
      have HCl : Hid (Calls Tryz.prog 47 #[.slice (some ⟨g, o + d + 2, none⟩) m (cc - d - 2)] wq fun e w' => ∃ v, e = .returned v ∧ RecV w' wq.heap.size v R[j] ∧ Below wq.heap.size wq w') := by
        have := bclone_at g (o + d + 2) (cc - d - 2) R[j] wq (by omega) C2'.out
        rw [hm] at this
        exact this
      clear C2'
      go_wp2_with fail
      refine HCl.out.mono ?_
      rintro e w2 ⟨v, rfl, hv, hb2⟩
      clear HCl
      obtain ⟨hSp, hSb⟩ := HI'.out
      have hs1 := hSb.size
      have hs2 := hb2.size
      have hvl := hv.lower hs1
      obtain ⟨g2, c2, rfl, hc2, hg2, hB2⟩ := hv
      rw [hm] at hvl hc2 ⊢
      have hbA : Below w2.heap.size w2 (w2.alloc (.cells #[.slice (some ⟨g2, 0, none⟩) m c2] 67)) := (Below.refl _ _).alloc (Nat.le_refl _) _
      have hRA := (hSp.below hb2).below hbA
      have hvA := hvl.keep (Keeps.of_below (S := fun _ => False) hbA) (fun _ _ e => e)
      have hbwA : Below w.heap.size w (w2.alloc (.cells #[.slice (some ⟨g2, 0, none⟩) m c2] 67)) := (hSb.trans (hb2.mono hs1)).alloc (by omega) _
      obtain ⟨V, hO, hV⟩ := hRA
      obtain ⟨i0, hi, hz0, hz1, hz2⟩ := info_parts info44
      have htl : (R.take j).length = j := by rw [List.length_take]; omega
      have hjb : j ≤ 1000000 := by
        have : j ≤ (encR (R.take j)).length := by
          have q : ∀ X : List (List UInt8), X.length ≤ (encR X).length := by
            intro X
            induction X with
            | nil => exact Nat.zero_le _
            | cons x X ih => rw [encR_cons, List.length_append, encR1_len, List.length_cons]; omega
          have := q (R.take j)
          omega
        omega
      have HO : Hid ((w2.alloc (.cells #[.slice (some ⟨g2, 0, none⟩) m c2] 67)).ownsRow w.heap.size 67 1 u4 j V) := by
        show World.ownsRow _ _ _ _ _ _ _
        rw [htl] at hO
        exact hO
      have HV : Hid (∀ (i : Nat) (u : Value) (r : List UInt8), V[i]? = some u → (R.take j)[i]? = some r → RecV (w2.alloc (.cells #[.slice (some ⟨g2, 0, none⟩) m c2] 67)) w.heap.size u r) := hV
      have HvA : Hid (RecV (w2.alloc (.cells #[.slice (some ⟨g2, 0, none⟩) m c2] 67)) w.heap.size (.slice (some ⟨g2, 0, none⟩) m c2) R[j]) := hvA
      have hq2 : j + 1 ≤ maxLen := by unfold maxLen; omega
      have hq3 : (j + 1) * 24 ≤ 140737488355328 := by omega
      have hq4 : w.heap.size ≤ (w2.alloc (.cells #[.slice (some ⟨g2, 0, none⟩) m c2] 67)).heap.size := by simp; omega
      clear hO hV hvA hvl hB2 hSp hSb HI' hbA hb2
      go_wp2_with (at_builtin; refine wpList_append_own _ rfl _ _ 134 rfl w.heap.size 67 i0 (.slice none 0 0) 1 24 Tryz.underlying134 hi hz0 hz1 hz2 rfl (by decide) _ j _ rfl HO.out ⟨w2.heap.size, 0, none⟩ 1 1 [.slice (some ⟨g2, 0, none⟩) m c2] rfl rfl (one_newB _ _ _) (fun u hu => by cases hu with | head => rfl | tail _ h => cases h) hq2 hq3 hq4 ?_)
      intro v1 w5 hown1 hg1 hnil1
      have HI5 : Hid (SpI R (j + 1) v1 w w5) := by
        refine ⟨?_, hbwA.grown hg1 (by omega) (fun k e => ownBlock_lo HO.out k e)⟩
        rw [List.take_succ_eq_append_getElem hlt]
        have h1 := HO.out
        rw [← htl] at h1 hown1
        exact RecsAt.push h1 HV.out HvA.out hown1 hg1
      clear hown1 hg1 hnil1 HO HV HvA hq2 hq3 hq4 hbwA
      go_wp2_with fail
      have e1 : m + 2 + rl - 2 - m = rl := by omega
      have e2 : cc - d - 2 - m = cc - (d + (m + 2)) := by omega
      rw [e1, e2]
      refine ⟨⟨j + 1, _, by omega, by rw [HNe.out, hr], fun hlt2 => ?_, HI5⟩, by simp only [sLen]; omega⟩
      have hrl : 0 < rl := by
        rw [← hr, encR_len_drop R (j + 1) hlt2, List.length_append, encR1_len]
        omega
      rw [HNe.out, if_neg (by omega), show o + d + 2 + m = o + (d + (m + 2)) by omega]
    · have hjR : j = R.length := by omega
      subst hjR
      have hz : (encR (R.drop R.length)).length = 0 := by rw [List.drop_length]; rfl
      rw [hz]
      have HP : Hid (RecsAt wr w.heap.size u4 R ∧ Below w.heap.size w wr) := by
        have := HI.out
        unfold SpI at this
        rw [List.take_length] at this
        exact this
      clear HI hpp hz
      go_wp2_with fail
      go_ret2
      exact ⟨u4, rfl, HP.out.1, HP.out.2⟩
end Go.Proofs.YteaacodloabdcaaGreatDoor

namespace Go.Proofs.YteaacodloabdcaaGreatDoor
open Go.RowKit Go.Maps

/-- A record whose block is one of U. -/
def RecU (w : World) (U : Nat → Prop) (v : Value) (r : List UInt8) : Prop := ∃ g c, v = .slice (some ⟨g, 0, none⟩) r.length c ∧ r.length ≤ c ∧ U g ∧ BlkAt w g r
/-- Records whose blocks are of U. -/
def RecsU (w : World) (U : Nat → Prop) (v : Value) (R : List (List UInt8)) : Prop := ∃ V : List Value, V.length = R.length ∧ ((v = .slice none 0 0 ∧ R = []) ∨ ∃ g cap cur, v = .slice (some ⟨g, 0, none⟩) R.length cap ∧ U g ∧ w.heap[g]? = some (.cells cur 67) ∧ R.length ≤ cap ∧ cap ≤ maxLen ∧ cur.size = cap ∧ cur.toList.take R.length = V) ∧ ∀ (j : Nat) (u : Value) (r : List UInt8), V[j]? = some u → R[j]? = some r → RecU w U u r
theorem RecsAt.toU {w : World} {lo : Nat} {v : Value} {R : List (List UInt8)} (h : RecsAt w lo v R) : RecsU w (fun i => lo ≤ i ∧ i < w.heap.size) v R := by
  obtain ⟨V, hO, hV⟩ := h
  refine ⟨V, by have := hO.1; omega, ?_, fun j u r a b => ?_⟩
  · rcases hO.2 with ⟨rfl, h0⟩ | ⟨g, cap, cur, rfl, hb, hg, h1, h2, h3, h4⟩
    · exact .inl ⟨rfl, List.eq_nil_of_length_eq_zero h0⟩
    · exact .inr ⟨g, cap, cur, rfl, ⟨hb, (Array.getElem?_eq_some_iff.1 hg).1⟩, hg, h1, h2, by omega, by rw [Nat.mul_one] at h4; exact h4⟩
  · obtain ⟨g, c, e, hc, hl, hb⟩ := hV j u r a b
    exact ⟨g, c, e, hc, ⟨hl, hb.lt⟩, hb⟩
theorem RecsU.mono {w : World} {U U' : Nat → Prop} {v : Value} {R : List (List UInt8)} (h : RecsU w U v R) (hU : ∀ i, U i → U' i) : RecsU w U' v R := by
  obtain ⟨V, hl, hO, hV⟩ := h
  refine ⟨V, hl, ?_, fun j u r a b => ?_⟩
  · rcases hO with q | ⟨g, cap, cur, e, hu, rest⟩
    · exact .inl q
    · exact .inr ⟨g, cap, cur, e, hU g hu, rest⟩
  · obtain ⟨g, c, e, hc, hu, hb⟩ := hV j u r a b
    exact ⟨g, c, e, hc, hU g hu, hb⟩
theorem RecsU.keep {S : Nat → Prop} {w w' : World} {U : Nat → Prop} {v : Value} {R : List (List UInt8)} (h : RecsU w U v R) (hk : Keeps S w w') (hs : ∀ i, U i → ¬ S i) : RecsU w' U v R := by
  obtain ⟨V, hl, hO, hV⟩ := h
  refine ⟨V, hl, ?_, fun j u r a b => ?_⟩
  · rcases hO with q | ⟨g, cap, cur, e, hu, hg, rest⟩
    · exact .inl q
    · exact .inr ⟨g, cap, cur, e, hu, (hk.block g (Array.getElem?_eq_some_iff.1 hg).1 (hs g hu)).trans hg, rest⟩
  · obtain ⟨g, c, e, hc, hu, hb⟩ := hV j u r a b
    exact ⟨g, c, e, hc, hu, hb.keep hk (hs g hu)⟩
/-- What wal.Open tells of a log that lasts. -/
def WoP (db n : Nat) (R : List (List UInt8)) (w : World) (e : Ending) (w' : World) : Prop :=
  ∃ lb sb v U, e = .returned (.tuple #[.pointer (some ⟨lb, 0, none⟩), v, .int .i64 0]) ∧ w.heap.size ≤ lb ∧ w.heap.size ≤ sb ∧ lb ≠ sb ∧ LgAt w' lb db n sb false 0 0 0 0 ∧ SlAt w' sb db false ∧ RecsU w' U v R ∧ (∀ i, U i → w.heap.size ≤ i ∧ i < w'.heap.size ∧ i ≠ lb ∧ i ≠ sb) ∧ Below w.heap.size w w'
set_option maxRecDepth 100000 in
set_option maxHeartbeats 2000000 in
theorem wopen_at {w : World} {db nb mb n cap : Nat} {B : List UInt8} {k : Nat} {D : DataW Unit} {left : Int} {down : Bool} (hd : DevAt w db nb mb n cap B k D left down) {a : Nat} {R : List (List UInt8)} {x y : Int} (h : LogOn n B a R x y) : Calls Tryz.prog 86 #[.pointer (some ⟨db, 0, none⟩)] w (WoP db n R w) := by
  have hn1 := hd.n1
  have hn2 := hd.n2
  have hrb : ringN n ≤ 200000 := by unfold ringN; omega
  have hdl := hd.dlt
  have hnl := hd.nlt
  have hml := hd.mlt
  obtain ⟨t, htt⟩ := told_some h.tl
  go_enter Tryz.func86, Tryz.ntmps86
  go_wp2_with fail
  refine (open_at hd).mono ?_
  rintro e w2 ⟨hb2, _, hS2⟩
  obtain ⟨s2, ka, kc, rfl, l2, hSl2, hI2, _⟩ := hS2 t _ htt
  have hs2 := hb2.size
  have hd2 := hd.keeps (Keeps.of_below (S := fun _ => False) hb2) (fun e => e) (fun e => e) (fun e => e)
  clear hS2 htt
  go_wp2_with fail
  refine (ringof_at hd2.c0 (by omega) hn2).mono ?_
  rintro e w3 ⟨rfl, hb3⟩
  have hs3 := hb3.size
  go_wp2_with fail
  have hbA : Below w2.heap.size w2 (w3.alloc (.cells #[.pointer (some ⟨db, 0, none⟩), .int .i64 (ringN n : Int)] 186)) := hb3.alloc hs3 _
  have hAl := heap_alloc_last w3 (.cells #[.pointer (some ⟨db, 0, none⟩), .int .i64 (ringN n : Int)] 186)
  have hsA : (w3.alloc (.cells #[.pointer (some ⟨db, 0, none⟩), .int .i64 (ringN n : Int)] 186)).heap.size = w3.heap.size + 1 := by simp
  generalize w3.alloc (.cells #[.pointer (some ⟨db, 0, none⟩), .int .i64 (ringN n : Int)] 186) = wA at hbA hAl hsA ⊢
  have hIA := (hI2.below hbA).up hbA.size
  have hSA := hSl2.keeps (Keeps.of_below (S := fun _ => False) hbA) (fun e => e)
  have hdA := hd2.keeps (Keeps.of_below (S := fun _ => False) hbA) (fun e => e) (fun e => e) (fun e => e)
  have hbwA : Below w.heap.size w wA := hb2.trans (hbA.mono hs2)
  have hsl2 := hSl2.lt
  have HL : Hid (LogOn n B a R x y) := h
  have hal := h.al
  have hsz := h.sz
  have hdat := h.dat
  clear hI2 hSl2 hd2 hd hb2 hb3 hbA h
  generalize hZ : (encR R).length = z at *
  refine (markof_at ka kc a z (ringN n) x y hIA hal hsz (by omega)).mono ?_
  rintro e w4 ⟨rfl, hb4⟩
  unfold mkV
  have hs4 := hb4.size
  clear hIA
  have hA4 := (hb4.block w3.heap.size (by omega)).trans hAl
  have r0 : w4.cell? ⟨w3.heap.size, 0, none⟩ = some (.pointer (some ⟨db, 0, none⟩)) := by rw [cell_of_row _ _ 0 _ 186 (0, 0) hA4]; rfl
  have r1 : w4.cell? ⟨w3.heap.size, 1, none⟩ = some (.int .i64 (ringN n : Int)) := by rw [cell_of_row _ _ 1 _ 186 (0, 0) hA4]; rfl
  have r2 := (World.cell?_alloc_lt w4 (.cells #[.int .i64 (a : Int), .int .i64 (z : Int), .int .i64 x, .int .i64 y] 183) ⟨w3.heap.size, 0, none⟩ (by show w3.heap.size < _; omega)).trans r0
  have r3 := (World.cell?_alloc_lt w4 (.cells #[.int .i64 (a : Int), .int .i64 (z : Int), .int .i64 x, .int .i64 y] 183) ⟨w3.heap.size, 1, none⟩ (by show w3.heap.size < _; omega)).trans r1
  go_wp2_with fail
  have hbB : Below wA.heap.size wA (w4.alloc (.cells #[.int .i64 (a : Int), .int .i64 (z : Int), .int .i64 x, .int .i64 y] 183)) := hb4.alloc hs4 _
  have hsB : (w4.alloc (.cells #[.int .i64 (a : Int), .int .i64 (z : Int), .int .i64 x, .int .i64 y] 183)).heap.size = w4.heap.size + 1 := by simp
  generalize w4.alloc (.cells #[.int .i64 (a : Int), .int .i64 (z : Int), .int .i64 x, .int .i64 y] 183) = wB at hbB hsB r2 r3 ⊢
  have hdB := hdA.keeps (Keeps.of_below (S := fun _ => False) hbB) (fun e => e) (fun e => e) (fun e => e)
  have hSB := hSA.keeps (Keeps.of_below (S := fun _ => False) hbB) (fun e => e)
  have hbwB : Below w.heap.size w wB := hbwA.trans (hbB.mono hbwA.size)
  clear hdA hSA hbwA hbB hb4 hA4 r0 r1 hAl
  refine (rread_at hdB a z hal hsz).mono ?_
  rintro e w5 ⟨g5, rfl, hg5, hgl5, hr5, hb5⟩
  rw [hdat] at hr5
  have hs5 := hb5.size
  have hbw5 : Below w.heap.size w w5 := hbwB.trans (hb5.mono hbwB.size)
  have hS5 := hSB.keeps (Keeps.of_below (S := fun _ => False) hb5) (fun e => e)
  have t0 := (hb5.cell (p := ⟨w3.heap.size, 0, none⟩) (by show w3.heap.size < _; omega)).trans r2
  have t1 := (hb5.cell (p := ⟨w3.heap.size, 1, none⟩) (by show w3.heap.size < _; omega)).trans r3
  have HR5 : Hid (w5.rangeAt g5 0 (bytesV (encR R))) := hr5
  clear hdB hSB hbwB hb5 hr5 r2 r3
  go_wp2_with fail
  have hsp := split_at R HL.out.ok g5 0 z w5 (by omega) ⟨by omega, by omega⟩ hgl5 HR5.out
  rw [hZ] at hsp
  refine hsp.mono ?_
  rintro e w6 ⟨v6, rfl, hR6, hb6⟩
  clear hsp HR5
  have hs6 := hb6.size
  have hbw6 : Below w.heap.size w w6 := hbw5.trans (hb6.mono hbw5.size)
  have hS6 := hS5.keeps (Keeps.of_below (S := fun _ => False) hb6) (fun e => e)
  have z0 := (hb6.cell (p := ⟨w3.heap.size, 0, none⟩) (by show w3.heap.size < _; omega)).trans t0
  have z1 := (hb6.cell (p := ⟨w3.heap.size, 1, none⟩) (by show w3.heap.size < _; omega)).trans t1
  have HP : Hid (WoP db n R w (.returned (.tuple #[.pointer (some ⟨w6.heap.size, 0, none⟩), v6, .int .i64 0])) (w6.alloc (.cells #[.pointer (some ⟨db, 0, none⟩), .int .i64 (ringN n : Int), .pointer (some ⟨s2, 0, none⟩), .bool false, .int .i64 0, .int .i64 0, .int .i64 0, .int .i64 0] 189))) := by
    have hbE : Below w6.heap.size w6 (w6.alloc (.cells #[.pointer (some ⟨db, 0, none⟩), .int .i64 (ringN n : Int), .pointer (some ⟨s2, 0, none⟩), .bool false, .int .i64 0, .int .i64 0, .int .i64 0, .int .i64 0] 189)) := (Below.refl _ _).alloc (Nat.le_refl _) _
    have hKE := Keeps.of_below (S := fun _ => False) hbE
    refine ⟨w6.heap.size, s2, v6, _, rfl, by omega, by omega, by omega, lg_new w6 db n s2, hS6.keeps hKE (fun e => e), hR6.toU.keep hKE (fun _ _ e => e), fun i hi => ?_, hbw6.alloc hbw6.size _⟩
    have : (w6.alloc (.cells #[.pointer (some ⟨db, 0, none⟩), .int .i64 (ringN n : Int), .pointer (some ⟨s2, 0, none⟩), .bool false, .int .i64 0, .int .i64 0, .int .i64 0, .int .i64 0] 189)).heap.size = w6.heap.size + 1 := by simp
    omega
  clear hR6 hS6 hS5 hbw6 hbw5 hb6 t0 t1
  go_wp2_with fail
  all_goals go_ret3
  exact HP.out
end Go.Proofs.YteaacodloabdcaaGreatDoor
