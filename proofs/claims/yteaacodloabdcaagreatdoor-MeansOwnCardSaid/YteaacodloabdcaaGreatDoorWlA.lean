import Derived.Test.YteaacodloabdcaaGreatDoorSlH
import Derived.Deep.DeepCutAuto
namespace Go.Proofs.YteaacodloabdcaaGreatDoor
open Go.RowKit Go.Maps

/-- How many bytes the ring of a device of n sectors has. -/
def ringN (n : Nat) : Nat := (n / 2 - 2) * 64
/-- Some bytes of the ring, from a place on. -/
def rdR (n : Nat) (B : List UInt8) (a c : Nat) : List UInt8 := (List.range c).map fun j => B.getD (128 + (a + j) % ringN n) 0
theorem rdR_len (n : Nat) (B : List UInt8) (a c : Nat) : (rdR n B a c).length = c := by simp [rdR]
theorem rdR_get (n : Nat) (B : List UInt8) (a c j : Nat) (h : j < c) : (rdR n B a c)[j]? = some (B.getD (128 + (a + j) % ringN n) 0) := by
  simp [rdR, h]
theorem rdR_add (n : Nat) (B : List UInt8) (a d m : Nat) : rdR n B a (d + m) = rdR n B a d ++ rdR n B ((a + d) % ringN n) m := by
  apply List.ext_getElem?
  intro j
  by_cases h : j < d
  · rw [List.getElem?_append_left (by rw [rdR_len]; exact h), rdR_get _ _ _ _ _ h, rdR_get _ _ _ _ _ (by omega)]
  · rw [List.getElem?_append_right (by rw [rdR_len]; omega), rdR_len]
    by_cases h2 : j < d + m
    · rw [rdR_get _ _ _ _ _ h2, rdR_get _ _ _ _ _ (by omega)]
      have e : ((a + d) % ringN n + (j - d)) % ringN n = (a + j) % ringN n := by
        rw [Nat.mod_add_mod]; congr 1; omega
      rw [e]
    · rw [List.getElem?_eq_none (by rw [rdR_len]; omega), List.getElem?_eq_none (by rw [rdR_len]; omega)]
theorem getD_of_getElem? {α : Type} {l : List α} {j : Nat} {x d : α} (h : l[j]? = some x) : l.getD j d = x := by simp [List.getD, h]
theorem sec_getD (B : List UInt8) (i k : Nat) (h : k < 64) : (sec B i).getD k 0 = B.getD (64 * i + k) 0 := by
  simp only [sec, List.getD, List.getElem?_take, List.getElem?_drop, if_pos h]
theorem ring_place {n a : Nat} (h : a < ringN n) : 2 + a / 64 < n / 2 ∧ 64 * (2 + a / 64) + a % 64 = 128 + a := by
  unfold ringN at h
  omega
theorem ring_room {n a m : Nat} (h : a < ringN n) (hm : m ≤ 64 - a % 64) : a + m ≤ ringN n := by
  unfold ringN at h ⊢
  omega
/-- A piece of a sector is a piece of the ring. -/
theorem sec_piece {n : Nat} {B : List UInt8} (hB : B.length = n * 64) {a m : Nat} (h : a < ringN n) (hm : m ≤ 64 - a % 64) : ((sec B (2 + a / 64)).drop (a % 64)).take m = rdR n B a m := by
  have hp := ring_place h
  have hr := ring_room h hm
  have hl := sec_length hB (show 2 + a / 64 < n by omega)
  apply List.ext_getElem?
  intro j
  rw [List.getElem?_take]
  by_cases hj : j < m
  · rw [if_pos hj, rdR_get _ _ _ _ _ hj, List.getElem?_drop]
    have hlt : a % 64 + j < (sec B (2 + a / 64)).length := by omega
    rw [List.getElem?_eq_getElem hlt]
    have e1 : (sec B (2 + a / 64)).getD (a % 64 + j) 0 = B.getD (64 * (2 + a / 64) + (a % 64 + j)) 0 := sec_getD _ _ _ (by omega)
    rw [Nat.mod_eq_of_lt (show a + j < ringN n by omega), show 128 + (a + j) = 64 * (2 + a / 64) + (a % 64 + j) by omega, ← e1]
    simp [List.getD, List.getElem?_eq_getElem hlt]
  · rw [if_neg hj, List.getElem?_eq_none (by rw [rdR_len]; omega)]

/-- The bytes of a record. -/
def encR1 (r : List UInt8) : List UInt8 := UInt8.ofNat (r.length % 256) :: UInt8.ofNat (r.length / 256) :: r
def encR (R : List (List UInt8)) : List UInt8 := R.flatMap encR1
def RecOk (R : List (List UInt8)) : Prop := ∀ r ∈ R, 1 ≤ r.length ∧ r.length ≤ 1000
theorem encR_cons (r : List UInt8) (R : List (List UInt8)) : encR (r :: R) = encR1 r ++ encR R := rfl
theorem encR_snoc (R : List (List UInt8)) (r : List UInt8) : encR (R ++ [r]) = encR R ++ encR1 r := by simp [encR]
theorem encR1_len (r : List UInt8) : (encR1 r).length = r.length + 2 := rfl
theorem encR_nil : encR [] = [] := rfl

/-- Bytes alike but where Q holds. -/
def Alike (Q : Nat → Prop) (B B' : List UInt8) : Prop := B'.length = B.length ∧ ∀ p, ¬ Q p → B'.getD p 0 = B.getD p 0
def AlikeW (Q : Nat → Prop) (B : List UInt8) (D : DataW Unit) : Prop := ∀ x : Nat, has D (ik x) = true → ∀ k, k < 64 → ¬ Q (64 * x + k) → (wasOf D x).getD k 0 = B.getD (64 * x + k) 0
theorem Alike.refl (Q : Nat → Prop) (B : List UInt8) : Alike Q B B := ⟨rfl, fun _ _ => rfl⟩
theorem Alike.trans {Q : Nat → Prop} {A B C : List UInt8} (h : Alike Q A B) (k : Alike Q B C) : Alike Q A C := ⟨k.1.trans h.1, fun p hp => (k.2 p hp).trans (h.2 p hp)⟩
theorem Alike.mono {Q Q' : Nat → Prop} {A B : List UInt8} (h : Alike Q A B) (hq : ∀ p, Q p → Q' p) : Alike Q' A B := ⟨h.1, fun p hp => h.2 p (fun x => hp (hq p x))⟩
theorem AlikeW.nil (Q : Nat → Prop) (B : List UInt8) : AlikeW Q B (.map []) := fun x h => by cases h
theorem AlikeW.mono {Q Q' : Nat → Prop} {B : List UInt8} {D : DataW Unit} (h : AlikeW Q B D) (hq : ∀ p, Q p → Q' p) : AlikeW Q' B D := fun x hx k hk hp => h x hx k hk (fun e => hp (hq _ e))
theorem put_getD {B : List UInt8} {n i : Nat} {s : List UInt8} (h : B.length = n * 64) (hi : i < n) (hs : s.length = 64) (p : Nat) : (put B i s).getD p 0 = if p / 64 = i then s.getD (p % 64) 0 else B.getD p 0 := by
  have e : p = 64 * (p / 64) + p % 64 := by omega
  have h1 : (put B i s).getD p 0 = (sec (put B i s) (p / 64)).getD (p % 64) 0 := by rw [sec_getD _ _ _ (by omega), ← e]
  have h2 : B.getD p 0 = (sec B (p / 64)).getD (p % 64) 0 := by rw [sec_getD _ _ _ (by omega), ← e]
  rw [h1, h2]
  split
  · rename_i hp; rw [hp, sec_put_same h hi hs]
  · rename_i hp; rw [sec_put_other h hi hs hp]
/-- A write that touches only what Q lets. -/
theorem Alike.write {Q : Nat → Prop} {B0 B : List UInt8} {n i : Nat} {s : List UInt8} (h : Alike Q B0 B) (hB : B.length = n * 64) (hi : i < n) (hs : s.length = 64) (hq : ∀ k, k < 64 → ¬ Q (64 * i + k) → s.getD k 0 = B0.getD (64 * i + k) 0) : Alike Q B0 (put B i s) := by
  refine ⟨by rw [put_length hB hi hs, ← hB, h.1], fun p hp => ?_⟩
  rw [put_getD hB hi hs]
  split
  · rename_i e
    have e2 : 64 * i + p % 64 = p := by omega
    rw [hq (p % 64) (by omega) (by rw [e2]; exact hp), e2]
  · exact h.2 p hp
theorem AlikeW.write {Q : Nat → Prop} {B0 B : List UInt8} {D : DataW Unit} (h : AlikeW Q B0 D) (hA : Alike Q B0 B) (hm : IsMap D) (i : Nat) : AlikeW Q B0 (wput D i (sec B i)) := by
  unfold wput
  split
  · exact h
  · intro x hx k hk hp
    rw [show (Lit.int .i64 (i : Int)) = ik i from rfl] at hx ⊢
    rw [has_put D hm] at hx
    rw [show (ik (i : Int)) = (Lit.int .i64 (i : Int)) from rfl, wasOf_put D hm]
    by_cases e : (x : Int) = (i : Int)
    · have e' : x = i := by omega
      subst e'
      rw [if_pos rfl, sec_getD _ _ _ hk]
      exact hA.2 _ hp
    · rw [if_neg e] at hx ⊢
      exact h x hx k hk hp
theorem isMap_wput {D : DataW Unit} (hm : IsMap D) (i : Nat) (s : List UInt8) : IsMap (wput D i s) := by
  unfold wput
  split
  · exact hm
  · obtain ⟨l, rfl⟩ := hm
    exact ⟨_, rfl⟩
end Go.Proofs.YteaacodloabdcaaGreatDoor

namespace Go.Proofs.YteaacodloabdcaaGreatDoor
open Go.RowKit Go.Maps

theorem list_ext_getD {A B : List UInt8} (hl : A.length = B.length) (h : ∀ k, k < B.length → A.getD k 0 = B.getD k 0) : A = B := by
  apply List.ext_getElem hl
  intro k h1 h2
  have := h k h2
  simpa [List.getD, List.getElem?_eq_getElem h1, List.getElem?_eq_getElem h2] using this
theorem sec_ext {B B' : List UInt8} (hl : B'.length = B.length) (i : Nat) (h : ∀ k, k < 64 → B'.getD (64 * i + k) 0 = B.getD (64 * i + k) 0) : sec B' i = sec B i := by
  have hle : (sec B i).length ≤ 64 := by simp [sec]; omega
  refine list_ext_getD (by simp [sec, hl]) (fun k hk => ?_)
  rw [sec_getD _ _ _ (by omega), sec_getD _ _ _ (by omega)]
  exact h k (by omega)
theorem Alike.crash {Q : Nat → Prop} {B0 : List UInt8} {w : World} {db nb mb n cap : Nat} {B : List UInt8} {k : Nat} {D : DataW Unit} {left : Int} {down : Bool} (h : DevAt w db nb mb n cap B k D left down) (hA : Alike Q B0 B) (hW : AlikeW Q B0 D) (K : List Bool) {L : List Int} (hp : L.Perm (intKeys D)) : Alike Q B0 (crashB D K L B L.length) := by
  have hkeys := h.keys
  have hL : ∀ x ∈ L, 0 ≤ x ∧ x < n := fun x hx => hkeys x (hp.mem_iff.1 hx)
  have hown := own_keys h.was
  have hnd : L.Nodup := hp.nodup_iff.2 hown.1
  have hlen := crashB_len h K L hL L.length (Nat.le_refl _)
  have hB := h.len
  refine ⟨by rw [hlen, ← hB, hA.1], fun p hq => ?_⟩
  by_cases hi : p / 64 < n
  · have hcs := crash_sec h K L hL hnd (p / 64) hi L.length (Nat.le_refl _)
    have e : p = 64 * (p / 64) + p % 64 := by omega
    have e1 : (crashB D K L B L.length).getD p 0 = (sec (crashB D K L B L.length) (p / 64)).getD (p % 64) 0 := by rw [sec_getD _ _ _ (by omega), ← e]
    have e2 : B.getD p 0 = (sec B (p / 64)).getD (p % 64) 0 := by rw [sec_getD _ _ _ (by omega), ← e]
    by_cases hm : ((p / 64 : Nat) : Int) ∈ L
    · obtain ⟨q, hq1, hq2⟩ := List.getElem_of_mem hm
      have hx := hcs.2 q hq1 (by rw [getD_lt L q 0 hq1, hq2])
      rw [e1, hx]
      split
      · rw [← e2]; exact hA.2 p hq
      · have hh : has D (ik ((p / 64 : Nat) : Int)) = true := (hown.2 _).1 (hp.mem_iff.1 hm)
        have := hW (p / 64) hh (p % 64) (by omega) (by rw [← e]; exact hq)
        rw [this, ← e]
    · have hx := hcs.1 (by rw [List.take_length]; exact hm)
      rw [e1, hx, ← e2]
      exact hA.2 p hq
  · have z1 : (crashB D K L B L.length)[p]? = none := List.getElem?_eq_none (by rw [hlen]; omega)
    have z2 : B0[p]? = none := List.getElem?_eq_none (by rw [← hA.1, hB]; omega)
    simp [List.getD, z1, z2]

/-- A log that lasts on a device. -/
structure LogOn (n : Nat) (B : List UInt8) (a : Nat) (R : List (List UInt8)) (x y : Int) : Prop where
  len : B.length = n * 64
  tl : told B = some [(a : Int), ((encR R).length : Int), x, y]
  al : a < ringN n
  sz : (encR R).length ≤ ringN n
  dat : rdR n B a (encR R).length = encR R
  ok : RecOk R
theorem told_alike {Q : Nat → Prop} {B B' : List UInt8} (h : Alike Q B B') (hq : ∀ p, Q p → 128 ≤ p) : told B' = told B := by
  unfold told
  have h0 : sec B' 0 = sec B 0 := sec_ext h.1 0 (fun k hk => h.2 _ (fun e => by have := hq _ e; omega))
  have h1 : sec B' 1 = sec B 1 := sec_ext h.1 1 (fun k hk => h.2 _ (fun e => by have := hq _ e; omega))
  rw [h0, h1]
theorem rdR_alike {Q : Nat → Prop} {n : Nat} {B B' : List UInt8} (h : Alike Q B B') {a c : Nat} (hq : ∀ j, j < c → ¬ Q (128 + (a + j) % ringN n)) : rdR n B' a c = rdR n B a c := by
  unfold rdR
  refine List.map_congr_left (fun j hj => ?_)
  exact h.2 _ (hq j (List.mem_range.1 hj))
/-- What is outside the log may change. -/
theorem LogOn.alike {Q : Nat → Prop} {n : Nat} {B B' : List UInt8} {a : Nat} {R : List (List UInt8)} {x y : Int} (h : LogOn n B a R x y) (hA : Alike Q B B') (hq : ∀ p, Q p → 128 ≤ p) (hq2 : ∀ j, j < (encR R).length → ¬ Q (128 + (a + j) % ringN n)) : LogOn n B' a R x y :=
  ⟨hA.1.trans h.len, (told_alike hA hq).trans h.tl, h.al, h.sz, (rdR_alike hA hq2).trans h.dat, h.ok⟩
theorem LogOn.fit {n : Nat} {B : List UInt8} {a : Nat} {R : List (List UInt8)} {x y : Int} (h : LogOn n B a R x y) : AllFit [(a : Int), ((encR R).length : Int), x, y] := by
  have := h.tl
  unfold told at this
  cases hn : (newestOf (sec B 0) (sec B 1)).2 with
  | none => rw [hn] at this; cases this
  | some c =>
    obtain ⟨t, ns⟩ := c
    rw [hn] at this
    simp only [Option.map_some, Option.some.injEq] at this
    subst this
    exact (newest_fine hn).fit

theorem place_at (a : Nat) (h : a ≤ 1000000) (w : World) : Calls Tryz.prog 163 #[.int .i64 (a : Int)] w fun e w' => e = .returned (.tuple #[.int .i64 ((2 + a / 64 : Nat) : Int), .int .i64 ((a % 64 : Nat) : Int)]) ∧ w' = w := by
  go_enter Tryz.func163, Tryz.ntmps163
  go_wp2_with fail
  go_ret2
  exact ⟨by go_num, rfl⟩
theorem end_at (a z r : Nat) (x y : Int) (h : a ≤ 1000000) (h2 : z ≤ 1000000) (hr : 0 < r) (h3 : r ≤ 1000000) (w : World) : Calls Tryz.prog 128 #[.agg #[.int .i64 (a : Int), .int .i64 (z : Int), .int .i64 x, .int .i64 y], .int .i64 (r : Int)] w fun e w' => e = .returned (.int .i64 (((a + z) % r : Nat) : Int)) ∧ Below w.heap.size w w' := by
  go_enter Tryz.func128, Tryz.ntmps128
  go_wp2_with fail
  go_ret
  exact ⟨by go_num, (Below.refl _ w).alloc (Nat.le_refl _) _⟩
end Go.Proofs.YteaacodloabdcaaGreatDoor

namespace Go.Proofs.YteaacodloabdcaaGreatDoor
open Go.RowKit Go.Maps

/-- A mark as a value. -/
def mkV (a z x y : Int) : Value := .agg #[.int .i64 a, .int .i64 z, .int .i64 x, .int .i64 y]
theorem ringof_at {w : World} {db nb n cap : Nat} (h0 : w.cell? ⟨db, 0, none⟩ = some (.slice (some ⟨nb, 0, none⟩) n cap)) (h1 : 4 ≤ n) (h2 : n ≤ 4096) : Calls Tryz.prog 123 #[.pointer (some ⟨db, 0, none⟩)] w fun e w' => e = .returned (.agg #[.pointer (some ⟨db, 0, none⟩), .int .i64 (ringN n : Int)]) ∧ Below w.heap.size w w' := by
  have hr : ((max ((n : Int) / 2 - 2) 0 * 64 : Int)) = ringN n := by unfold ringN; omega
  have hlt : db < w.heap.size := World.block_lt_of_cell? w _ h0
  go_enter Tryz.func123, Tryz.ntmps123
  go_wp2_with fail
  have h0' : (w.alloc (.cells #[.pointer none, .int .i64 0] 186)).cell? ⟨db, 0, none⟩ = some (.slice (some ⟨nb, 0, none⟩) n cap) := (World.cell?_alloc_lt _ _ ⟨db, 0, none⟩ hlt).trans h0
  refine (sectors_any h0').mono ?_
  rintro e w' ⟨rfl, hw⟩
  subst hw
  go_wp2_with fail
  exact bodyPost_ret (v := .agg #[.pointer (some ⟨db, 0, none⟩), .int .i64 (ringN n : Int)]) (by simp [results, Tryz.results123, go_sem]) rfl ⟨rfl, (Below.refl _ w).alloc (Nat.le_refl _) _⟩
theorem numbers_at (a z x y : Int) (w : World) (hf : AllFit [a, z, x, y]) : Calls Tryz.prog 122 #[mkV a z x y] w fun e w' => ∃ g, e = .returned (.slice (some ⟨g, 0, none⟩) 4 4) ∧ w.heap.size ≤ g ∧ IntsAt w' w'.heap.size (some ⟨g, 0, none⟩) 4 [a, z, x, y] ∧ Below w.heap.size w w' := by
  unfold mkV
  go_enter Tryz.func122, Tryz.ntmps122
  go_wp2_with fail
  go_ret
  refine ⟨w.heap.size + 1, by go_num, by omega, ⟨rfl, hf, Or.inr ⟨w.heap.size + 1, 0, rfl, by simp, ?_⟩⟩, ((Below.refl _ w).alloc (Nat.le_refl _) _).alloc (by simp) _⟩
  intro j v hv
  have hh := heap_alloc_last (w.alloc (.cells #[.int .i64 a, .int .i64 z, .int .i64 x, .int .i64 y] 183)) (.cells #[.int .i64 a, .int .i64 z, .int .i64 x, .int .i64 y] 2)
  rw [show (w.alloc (.cells #[.int .i64 a, .int .i64 z, .int .i64 x, .int .i64 y] 183)).heap.size = w.heap.size + 1 from by simp] at hh
  rw [cell_of_row _ _ (0 + j) _ 2 (0, 0) hh]
  simpa using hv
theorem dead_nil (w : World) : Calls Tryz.prog 124 #[.pointer none] w fun e w' => e = .returned (.bool true) ∧ w' = w := by
  go_enter Tryz.func124, Tryz.ntmps124
  go_wp2_with fail
  go_ret
  exact ⟨rfl, rfl⟩
/-- A log in memory. -/
structure LgAt (w : World) (lb db n sb : Nat) (over : Bool) (a z x y : Int) : Prop where
  c0 : w.cell? ⟨lb, 0, none⟩ = some (.pointer (some ⟨db, 0, none⟩))
  c1 : w.cell? ⟨lb, 1, none⟩ = some (.int .i64 (ringN n : Int))
  c2 : w.cell? ⟨lb, 2, none⟩ = some (.pointer (some ⟨sb, 0, none⟩))
  c3 : w.cell? ⟨lb, 3, none⟩ = some (.bool over)
  c4 : w.cell? ⟨lb, 4, none⟩ = some (.int .i64 a)
  c5 : w.cell? ⟨lb, 5, none⟩ = some (.int .i64 z)
  c6 : w.cell? ⟨lb, 6, none⟩ = some (.int .i64 x)
  c7 : w.cell? ⟨lb, 7, none⟩ = some (.int .i64 y)
  f : ∀ o, w.frozen? ⟨lb, o, none⟩ = false
theorem LgAt.lt {w : World} {lb db n sb : Nat} {over : Bool} {a z x y : Int} (h : LgAt w lb db n sb over a z x y) : lb < w.heap.size := World.block_lt_of_cell? w _ h.c0
theorem LgAt.keeps {S : Nat → Prop} {w w' : World} {lb db n sb : Nat} {over : Bool} {a z x y : Int} (h : LgAt w lb db n sb over a z x y) (hk : Keeps S w w') (hs : ¬ S lb) : LgAt w' lb db n sb over a z x y :=
  ⟨(hk.cell (p := ⟨lb, 0, none⟩) h.lt hs).trans h.c0, (hk.cell (p := ⟨lb, 1, none⟩) h.lt hs).trans h.c1, (hk.cell (p := ⟨lb, 2, none⟩) h.lt hs).trans h.c2, (hk.cell (p := ⟨lb, 3, none⟩) h.lt hs).trans h.c3, (hk.cell (p := ⟨lb, 4, none⟩) h.lt hs).trans h.c4, (hk.cell (p := ⟨lb, 5, none⟩) h.lt hs).trans h.c5, (hk.cell (p := ⟨lb, 6, none⟩) h.lt hs).trans h.c6, (hk.cell (p := ⟨lb, 7, none⟩) h.lt hs).trans h.c7, fun o => (hk.frozen (p := ⟨lb, o, none⟩) h.lt hs).trans (h.f o)⟩
theorem dead_at {w : World} {lb db n sb : Nat} {over : Bool} {a z x y : Int} (h : LgAt w lb db n sb over a z x y) : Calls Tryz.prog 124 #[.pointer (some ⟨lb, 0, none⟩)] w fun e w' => e = .returned (.bool over) ∧ w' = w := by
  have c2 := h.c2
  have c3 := h.c3
  go_enter Tryz.func124, Tryz.ntmps124
  go_wp2_with fail
  go_ret
  exact ⟨rfl, rfl⟩
theorem load80 (r : Nat) (u0 u1 u2 u3 : Value) (w : World) (h0 : w.cell? ⟨r, 0, none⟩ = some u0) (h1 : w.cell? ⟨r, 1, none⟩ = some u1) (h2 : w.cell? ⟨r, 2, none⟩ = some u2) (h3 : w.cell? ⟨r, 3, none⟩ = some u3) : (loadVar 183 ⟨r, 0, none⟩).run Tryz.prog w = .ok (.agg #[u0, u1, u2, u3]) w := by
  go_simp
theorem res_mark {fn : Func} {p q : Tmp} (h : fn.results = #[.cell p 183, .tmp q]) (tmps : Array Value) (w : World) (r : Nat) (u0 u1 u2 u3 z : Value) (hp : tmps.getD p undef = .pointer (some ⟨r, 0, none⟩)) (hq : tmps.getD q undef = z) (h0 : w.cell? ⟨r, 0, none⟩ = some u0) (h1 : w.cell? ⟨r, 1, none⟩ = some u1) (h2 : w.cell? ⟨r, 2, none⟩ = some u2) (h3 : w.cell? ⟨r, 3, none⟩ = some u3) :
    (results fn tmps).run Tryz.prog w = .ok (.tuple #[.agg #[u0, u1, u2, u3], z]) w := by
  rw [results_cell_tmp h, hp, hq]
  have ha : (asAddr (.pointer (some ⟨r, 0, none⟩))).run Tryz.prog w = .ok ⟨r, 0, none⟩ w := rfl
  rw [ha]
  simp only [Result.andThen]
  rw [load80 r u0 u1 u2 u3 w h0 h1 h2 h3]
/-- Four cells that are set. -/
def set4 (w : World) (b : Nat) (v0 v1 v2 v3 : Value) : World := (((w.setCell ⟨b, 0, none⟩ v0).setCell ⟨b, 1, none⟩ v1).setCell ⟨b, 2, none⟩ v2).setCell ⟨b, 3, none⟩ v3
theorem set4_cells {w : World} {b : Nat} {u0 u1 u2 u3 : Value} (h0 : w.cell? ⟨b, 0, none⟩ = some u0) (h1 : w.cell? ⟨b, 1, none⟩ = some u1) (h2 : w.cell? ⟨b, 2, none⟩ = some u2) (h3 : w.cell? ⟨b, 3, none⟩ = some u3) (v0 v1 v2 v3 : Value) :
    (set4 w b v0 v1 v2 v3).cell? ⟨b, 0, none⟩ = some v0 ∧ (set4 w b v0 v1 v2 v3).cell? ⟨b, 1, none⟩ = some v1 ∧ (set4 w b v0 v1 v2 v3).cell? ⟨b, 2, none⟩ = some v2 ∧ (set4 w b v0 v1 v2 v3).cell? ⟨b, 3, none⟩ = some v3 := by
  have o : ∀ (w : World) (i j : Nat) (v : Value), i ≠ j → (w.setCell ⟨b, j, none⟩ v).cell? ⟨b, i, none⟩ = w.cell? ⟨b, i, none⟩ := fun w i j v hij => World.cell?_setCell_other _ _ _ _ (by simp)
  have s : ∀ (w : World) (i : Nat) (v u : Value), w.cell? ⟨b, i, none⟩ = some u → (w.setCell ⟨b, i, none⟩ v).cell? ⟨b, i, none⟩ = some v := fun w i v u h => World.cell?_setCell_same _ _ _ h
  unfold set4
  refine ⟨?_, ?_, ?_, ?_⟩
  · rw [o _ 0 3 _ (by decide), o _ 0 2 _ (by decide), o _ 0 1 _ (by decide)]; exact s _ 0 _ _ h0
  · rw [o _ 1 3 _ (by decide), o _ 1 2 _ (by decide)]; exact s _ 1 _ u1 (by rw [o _ 1 0 _ (by decide)]; exact h1)
  · rw [o _ 2 3 _ (by decide)]; exact s _ 2 _ u2 (by rw [o _ 2 1 _ (by decide), o _ 2 0 _ (by decide)]; exact h2)
  · exact s _ 3 _ u3 (by rw [o _ 3 2 _ (by decide), o _ 3 1 _ (by decide), o _ 3 0 _ (by decide)]; exact h3)
theorem set4_keeps {S : Nat → Prop} {w : World} {b : Nat} (h : S b) (v0 v1 v2 v3 : Value) : Keeps S w (set4 w b v0 v1 v2 v3) := by
  unfold set4
  exact ((((Keeps.refl S w).setCell (p := ⟨b, 0, none⟩) h _).setCell (p := ⟨b, 1, none⟩) h _).setCell (p := ⟨b, 2, none⟩) h _).setCell (p := ⟨b, 3, none⟩) h _
set_option maxRecDepth 100000 in
set_option maxHeartbeats 1000000 in
theorem markof_at {w : World} (ka : Option Addr) (kc : Nat) (a z r : Nat) (x y : Int) (h : IntsAt w w.heap.size ka 4 [(a : Int), z, x, y]) (ha : a < r) (hz : z ≤ r) (_hr : r ≤ 1000000) : Calls Tryz.prog 131 #[.slice ka 4 kc, .int .i64 (r : Int)] w fun e w' => e = .returned (.tuple #[mkV a z x y, .bool true]) ∧ Below w.heap.size w w' := by
  obtain ⟨b, o, rfl, c0⟩ := h.cell 0 (by omega)
  obtain ⟨b1, o1, e1, c1⟩ := h.cell 1 (by omega)
  cases e1
  obtain ⟨b2, o2, e2, c2⟩ := h.cell 2 (by omega)
  cases e2
  obtain ⟨b3, o3, e3, c3⟩ := h.cell 3 (by omega)
  cases e3
  have hbl : b < w.heap.size := World.block_lt_of_cell? w _ c0
  have d0 : w.cell? ⟨b, o, none⟩ = some (.int .i64 (a : Int)) := c0
  have d1 : w.cell? ⟨b, o + 1, none⟩ = some (.int .i64 (z : Int)) := c1
  have d2 : w.cell? ⟨b, o + 2, none⟩ = some (.int .i64 x) := c2
  have d3 : w.cell? ⟨b, o + 3, none⟩ = some (.int .i64 y) := c3
  clear c0 c1 c2 c3 h
  have hz0 : AllFit [0, 0, 0, 0] := fun q hq => by simp at hq; omega
  go_enter Tryz.func131, Tryz.ntmps131
  go_wp2_with fail
  have hsA : (w.alloc (.cells #[.int .i64 0, .int .i64 0, .int .i64 0, .int .i64 0] 183)).heap.size = w.heap.size + 1 := by simp
  have hbA : Below w.heap.size w (w.alloc (.cells #[.int .i64 0, .int .i64 0, .int .i64 0, .int .i64 0] 183)) := (Below.refl _ w).alloc (Nat.le_refl _) _
  have hA := heap_alloc_last w (.cells #[.int .i64 0, .int .i64 0, .int .i64 0, .int .i64 0] 183)
  generalize w.alloc (.cells #[.int .i64 0, .int .i64 0, .int .i64 0, .int .i64 0] 183) = wA at hsA hbA hA ⊢
  refine (numbers_at 0 0 0 0 wA hz0).mono ?_
  rintro e w1 ⟨g, rfl, hg1, _, hb1⟩
  have hs1 := hb1.size
  have hbw1 := hbA.trans (hb1.mono hbA.size)
  have e0 : w1.cell? ⟨b, o, none⟩ = some (.int .i64 (a : Int)) := (hbw1.cell (p := ⟨b, o, none⟩) hbl).trans d0
  have e1 : w1.cell? ⟨b, o + 1, none⟩ = some (.int .i64 (z : Int)) := (hbw1.cell (p := ⟨b, o + 1, none⟩) hbl).trans d1
  have e2 : w1.cell? ⟨b, o + 2, none⟩ = some (.int .i64 x) := (hbw1.cell (p := ⟨b, o + 2, none⟩) hbl).trans d2
  have e3 : w1.cell? ⟨b, o + 3, none⟩ = some (.int .i64 y) := (hbw1.cell (p := ⟨b, o + 3, none⟩) hbl).trans d3
  have hA1 := (hb1.block w.heap.size (by omega)).trans hA
  clear d0 d1 d2 d3 hb1 hA
  have hlt : w.heap.size < w1.heap.size := by omega
  have z0 : w1.cell? ⟨w.heap.size, 0, none⟩ = some (.int .i64 0) := by rw [cell_of_row _ _ 0 _ 183 (0, 0) hA1]; rfl
  have z1 : w1.cell? ⟨w.heap.size, 1, none⟩ = some (.int .i64 0) := by rw [cell_of_row _ _ 1 _ 183 (0, 0) hA1]; rfl
  have z2 : w1.cell? ⟨w.heap.size, 2, none⟩ = some (.int .i64 0) := by rw [cell_of_row _ _ 2 _ 183 (0, 0) hA1]; rfl
  have z3 : w1.cell? ⟨w.heap.size, 3, none⟩ = some (.int .i64 0) := by rw [cell_of_row _ _ 3 _ 183 (0, 0) hA1]; rfl
  have zf : ∀ q, w1.frozen? ⟨w.heap.size, q, none⟩ = false := fun q => by unfold World.frozen?; rw [hA1]; simp
  have y0 := (World.cell?_alloc_lt w1 (.cells #[.int .i64 (a : Int), .int .i64 (z : Int), .int .i64 x, .int .i64 y] 183) ⟨w.heap.size, 0, none⟩ hlt).trans z0
  have y1 := (World.cell?_alloc_lt w1 (.cells #[.int .i64 (a : Int), .int .i64 (z : Int), .int .i64 x, .int .i64 y] 183) ⟨w.heap.size, 1, none⟩ hlt).trans z1
  have y2 := (World.cell?_alloc_lt w1 (.cells #[.int .i64 (a : Int), .int .i64 (z : Int), .int .i64 x, .int .i64 y] 183) ⟨w.heap.size, 2, none⟩ hlt).trans z2
  have y3 := (World.cell?_alloc_lt w1 (.cells #[.int .i64 (a : Int), .int .i64 (z : Int), .int .i64 x, .int .i64 y] 183) ⟨w.heap.size, 3, none⟩ hlt).trans z3
  have yf : ∀ q, (w1.alloc (.cells #[.int .i64 (a : Int), .int .i64 (z : Int), .int .i64 x, .int .i64 y] 183)).frozen? ⟨w.heap.size, q, none⟩ = false := fun q => by rw [World.frozen?_of_block (w := w1) (Below.heap_alloc _ _ _ hlt)]; exact zf q
  have yf0 := yf 0
  have yf1 := yf 1
  have yf2 := yf 2
  have yf3 := yf 3
  go_wp2_with fail
  go_region_held (fun w' => w'.cell? ⟨b, o, none⟩ = some (.int .i64 (a : Int)) ∧ w'.cell? ⟨b, o + 1, none⟩ = some (.int .i64 (z : Int)) ∧ w'.cell? ⟨b, o + 2, none⟩ = some (.int .i64 x) ∧ w'.cell? ⟨b, o + 3, none⟩ = some (.int .i64 y)) (first | exact ⟨e0, e1, e2, e3⟩ | go_keep) (fail)
  all_goals go_wp2_with fail
  have hF := set4_cells z0 z1 z2 z3 (.int .i64 (a : Int)) (.int .i64 (z : Int)) (.int .i64 x) (.int .i64 y)
  have hK : Keeps (fun i => i = w.heap.size) w1 (set4 w1 w.heap.size (.int .i64 (a : Int)) (.int .i64 (z : Int)) (.int .i64 x) (.int .i64 y)) := set4_keeps (S := fun i => i = w.heap.size) rfl _ _ _ _
  have hl4 : w.heap.size < (set4 w1 w.heap.size (.int .i64 (a : Int)) (.int .i64 (z : Int)) (.int .i64 x) (.int .i64 y)).heap.size := Nat.lt_of_lt_of_le hlt hK.size
  have hf4 : ∀ q, ((set4 w1 w.heap.size (.int .i64 (a : Int)) (.int .i64 (z : Int)) (.int .i64 x) (.int .i64 y)).alloc (.cells #[.int .i64 (a : Int), .int .i64 (z : Int), .int .i64 x, .int .i64 y] 183)).drew.cell? ⟨w.heap.size, q, none⟩ = (set4 w1 w.heap.size (.int .i64 (a : Int)) (.int .i64 (z : Int)) (.int .i64 x) (.int .i64 y)).cell? ⟨w.heap.size, q, none⟩ := fun q => World.cell?_alloc_lt _ _ ⟨w.heap.size, q, none⟩ hl4
  refine bodyPost_ret (res_mark rfl _ _ w.heap.size _ _ _ _ (.bool true) rfl rfl ((hf4 0).trans hF.1) ((hf4 1).trans hF.2.1) ((hf4 2).trans hF.2.2.1) ((hf4 3).trans hF.2.2.2)) rfl ⟨rfl, ?_⟩
  exact below_dr ((hbw1.trans (hK.below (B := w.heap.size) (by omega) (fun i e => by omega))).alloc (by omega) _)
end Go.Proofs.YteaacodloabdcaaGreatDoor

namespace Go.Proofs.YteaacodloabdcaaGreatDoor
open Go.RowKit Go.Maps

/-- Read, with the block of what it tells. -/
theorem read_blk {w : World} {db nb mb n cap : Nat} {B : List UInt8} {k : Nat} {D : DataW Unit} {left : Int} {down : Bool} (h : DevAt w db nb mb n cap B k D left down) (v : Int) (i : Nat) (hv : v = i) (hi : i < n) :
    Calls Tryz.prog 164 #[.pointer (some ⟨db, 0, none⟩), .int .i64 v] w fun e w' => ∃ g c cur, e = .returned (.tuple #[.slice (some ⟨g, 0, none⟩) 64 c, .int .i64 0]) ∧ w.heap.size ≤ g ∧ w'.heap[g]? = some (.cells cur 5) ∧ cur.toList.take 64 = bytesV (sec B i) ∧ 64 ≤ cur.size ∧ 64 ≤ c ∧ Below w.heap.size w w' := by
  subst hv
  refine (read_yes h i hi).mono ?_
  rintro e w' ⟨v, rfl, hrow, hne, hb⟩
  obtain ⟨hl, ⟨rfl, h0⟩ | ⟨g, cap, cur, rfl, hg, hblk, hnc, hcm, hcs, hcur⟩⟩ := hrow
  · exact absurd rfl hne
  · exact ⟨g, cap, cur, rfl, hg, hblk, by simpa using hcur, by omega, hnc, hb⟩
theorem mkB (m : Nat) (h : m ≤ 1000000) (w : World) : (Instr.makeSlice 67 (.int .i64 m) (.int .i64 m)).run Tryz.prog w = .ok (.slice (some ⟨w.heap.size, 0, none⟩) m m) (w.alloc (.cells (Array.replicate m (.int .u8 0)) 5)) := by
  have hx := info5
  cases hq : Tryz.prog.info? 5 with
  | none => rw [hq] at hx; cases hx
  | some i =>
    rw [hq] at hx
    simp only [Option.map_some, Option.some.injEq, Prod.mk.injEq] at hx
    obtain ⟨h1, h2, h3⟩ := hx
    rw [run_make w 67 5 i _ Tryz.underlying67 hq h1 .i64 .i64 m m (by omega) (by omega) (by rw [h3]; omega) (by omega)]
    have e : madeCells (Value.int .u8 0).cells ((m : Int).toNat * i.size) = Array.replicate m (.int .u8 0) := by
      show madeCells (Array.replicate 1 (.int .u8 0)) _ = _
      rw [madeCells_rep _ _ _ (by omega), h2]
      simp
    rw [e]
    simp
def sLen : Value → Nat
  | .slice _ n _ => n
  | _ => 0
/-- The buffer of a read, some bytes of it read. -/
def rbuf (n : Nat) (B : List UInt8) (a c d : Nat) : List Value := bytesV (rdR n B a d) ++ List.replicate (c - d) (.int .u8 0)
theorem rbuf_len (n : Nat) (B : List UInt8) (a c d : Nat) (h : d ≤ c) : (rbuf n B a c d).length = c := by
  unfold rbuf; rw [List.length_append, bytesV_length, rdR_len, List.length_replicate]; omega
theorem rbuf_step (n : Nat) (B : List UInt8) (a c d m : Nat) (h : d + m ≤ c) : (rbuf n B a c d).take d ++ bytesV (rdR n B ((a + d) % ringN n) m) ++ (rbuf n B a c d).drop (d + m) = rbuf n B a c (d + m) := by
  unfold rbuf
  have hl : (bytesV (rdR n B a d)).length = d := by rw [bytesV_length, rdR_len]
  rw [List.take_append_of_le_length (by omega), List.take_of_length_le (by omega), rdR_add, bytesV_append, List.drop_append, List.drop_of_length_le (by omega), List.nil_append, hl, List.drop_replicate]
  congr 2
  omega
theorem Keeps.of_below2 {B : Nat} {a b : World} (h : Below B a b) : Keeps (fun i => B ≤ i) a b := ⟨h.os, h.tape, h.output, h.size, fun i _ hs => h.block i (by omega)⟩
theorem below_drewN {B : Nat} {a W : World} {n : Nat} (h : Below B a W) : Below B a (W.drewN n) := ⟨h.os, h.tape, h.output, h.size, h.block⟩
set_option maxRecDepth 100000 in
set_option maxHeartbeats 1000000 in
theorem rread_at {w : World} {db nb mb n cap : Nat} {B : List UInt8} {k : Nat} {D : DataW Unit} {left : Int} {down : Bool} (h : DevAt w db nb mb n cap B k D left down) (a c : Nat) (ha : a < ringN n) (hc : c ≤ ringN n) :
    Calls Tryz.prog 132 #[.agg #[.pointer (some ⟨db, 0, none⟩), .int .i64 (ringN n : Int)], .int .i64 (a : Int), .int .i64 (c : Int)] w fun e w' => ∃ g, e = .returned (.tuple #[.slice (some ⟨g, 0, none⟩) c c, .int .i64 0]) ∧ w.heap.size ≤ g ∧ g < w'.heap.size ∧ w'.rangeAt g 0 (bytesV (rdR n B a c)) ∧ Below w.heap.size w w' := by
  have hn2 := h.n2
  have hrb : ringN n ≤ 200000 := by unfold ringN; omega
  have hmk := fun W => mkB c (by omega) W
  have hdl := h.dlt
  have hnl := h.nlt
  have hml := h.mlt
  go_enter Tryz.func132, Tryz.ntmps132
  go_wp2_with fail
  clear hmk
  have hb1 : Below w.heap.size w ((w.alloc (.cells #[.pointer (some ⟨db, 0, none⟩), .int .i64 (ringN n : Int)] 186)).alloc (.cells (Array.replicate c (.int .u8 0)) 5)) := ((Below.refl _ w).alloc (Nat.le_refl _) _).alloc (by simp) _
  have hs1 : ((w.alloc (.cells #[.pointer (some ⟨db, 0, none⟩), .int .i64 (ringN n : Int)] 186)).alloc (.cells (Array.replicate c (.int .u8 0)) 5)).heap.size = w.heap.size + 2 := by simp
  have hg1 : ((w.alloc (.cells #[.pointer (some ⟨db, 0, none⟩), .int .i64 (ringN n : Int)] 186)).alloc (.cells (Array.replicate c (.int .u8 0)) 5)).heap[w.heap.size + 1]? = some (.cells (rbuf n B a c 0).toArray 5) := by
    have := heap_alloc_last (w.alloc (.cells #[.pointer (some ⟨db, 0, none⟩), .int .i64 (ringN n : Int)] 186)) (.cells (Array.replicate c (.int .u8 0)) 5)
    rw [show (w.alloc (.cells #[.pointer (some ⟨db, 0, none⟩), .int .i64 (ringN n : Int)] 186)).heap.size = w.heap.size + 1 from by simp] at this
    rw [this]
    simp [rbuf, rdR, bytesV]
  have x0 : ((w.alloc (.cells #[.pointer (some ⟨db, 0, none⟩), .int .i64 (ringN n : Int)] 186)).alloc (.cells (Array.replicate c (.int .u8 0)) 5)).cell? ⟨w.heap.size, 0, none⟩ = some (.pointer (some ⟨db, 0, none⟩)) := by simp
  have x1 : ((w.alloc (.cells #[.pointer (some ⟨db, 0, none⟩), .int .i64 (ringN n : Int)] 186)).alloc (.cells (Array.replicate c (.int .u8 0)) 5)).cell? ⟨w.heap.size, 1, none⟩ = some (.int .i64 (ringN n : Int)) := by simp
  generalize (w.alloc (.cells #[.pointer (some ⟨db, 0, none⟩), .int .i64 (ringN n : Int)] 186)).alloc (.cells (Array.replicate c (.int .u8 0)) 5) = w1 at hb1 hs1 hg1 x0 x1 ⊢
  have h1 := h.keeps (Keeps.of_below (S := fun _ => False) hb1) (fun e => e) (fun e => e) (fun e => e)
  have HD : Hid (DevAt w1 db nb mb n cap B k D left down) := h1
  have hB := h.len
  clear h h1
  generalize hR : ringN n = R at *
  go_loopw [1, 9] (fun s1 s9 wr => ∃ (d : Nat) (p : Option Addr), d ≤ c ∧ s1 = .int .i64 (((a + d) % R : Nat) : Int) ∧ s9 = .slice p (c - d) (c - d) ∧ (d < c → p = some ⟨w.heap.size + 1, d, none⟩) ∧ wr.heap[w.heap.size + 1]? = some (.cells (rbuf n B a c d).toArray 5) ∧ Below (w.heap.size + 1) w1 wr) (fun _ s9 _ => sLen s9)
  case atStart => exact ⟨0, _, Nat.zero_le _, by rw [Nat.add_zero, Nat.mod_eq_of_lt ha], rfl, fun _ => rfl, hg1, Below.refl _ _⟩
  case round =>
    obtain ⟨d, p, hd, rfl, rfl, hpp, hg, hb⟩ := hrel
    have hq : (a + d) % R < R := Nat.mod_lt _ (by omega)
    have hp := ring_place (n := n) (a := (a + d) % R) (by rw [hR]; exact hq)
    by_cases hlt : d < c
    · obtain rfl := hpp hlt
      clear hpp
      have y0 := (hb.cell (p := ⟨w.heap.size, 0, none⟩) (by show w.heap.size < _; omega)).trans x0
      have y1 := (hb.cell (p := ⟨w.heap.size, 1, none⟩) (by show w.heap.size < _; omega)).trans x1
      have hdv := HD.out.keeps (Keeps.of_below2 hb) (by omega) (by omega) (by omega)
      have hst : Hid (∀ m, d + m ≤ c → (rbuf n B a c d).take d ++ bytesV (rdR n B ((a + d) % R) m) ++ (rbuf n B a c d).drop (d + m) = rbuf n B a c (d + m)) := fun m hm => by rw [← hR]; exact rbuf_step n B a c d m hm
      have hmod : Hid (∀ m, ((a + d) % R + m) % R = (a + (d + m)) % R) := fun m => by rw [Nat.mod_add_mod, Nat.add_assoc]
      have hpc : Hid (∀ m, m ≤ 64 - ((a + d) % R) % 64 → ((sec B (2 + ((a + d) % R) / 64)).drop (((a + d) % R) % 64)).take m = rdR n B ((a + d) % R) m) := fun m hm => sec_piece hB (by rw [hR]; exact hq) hm
      generalize (a + d) % R = q at hq hp hst hmod hpc ⊢
      go_wp2_with fail
      refine (place_at q (by omega) wr).mono ?_
      rintro e w2 ⟨rfl, hw2⟩
      subst hw2
      go_wp2_with fail
      refine (read_blk hdv _ (2 + q / 64) rfl (by omega)).mono ?_
      rintro e w3 ⟨g3, c3, cur3, rfl, l3, hg3, hc3, hs3, hcc3, hb3⟩
      obtain ⟨m, hm⟩ : ∃ m, m = Nat.min (64 - q % 64) (c - d) := ⟨_, rfl⟩
      have hm1 : m ≤ 64 - q % 64 := by rw [hm]; exact Nat.min_le_left _ _
      have hm2 : m ≤ c - d := by rw [hm]; exact Nat.min_le_right _ _
      have hm3 : 0 < m := by rw [hm]; show 0 < min _ _; omega
      have hg3' := (hb3.block (w.heap.size + 1) (by have := hb.size; omega)).trans hg
      have hbl := rbuf_len n B a c d hd
      have hrun := run_copy_row (P := Tryz.prog) w3 67 67 3 5 (w.heap.size + 1) d (c - d) (c - d) ⟨g3, q % 64, none⟩ (64 - q % 64) (c3 - q % 64) (rbuf n B a c d).toArray 5 (bytesV (rdR n B q m)) Tryz.underlying67 size5 hg3' (by rw [bytesV_length, rdR_len, hm]) (by
        intro j v hv
        rw [Addr.add_mid, cell_of_row _ _ (q % 64 + j) _ 5 (0, 0) hg3]
        have hj : j < m := by
          have := (List.getElem?_eq_some_iff.1 hv).1
          rwa [bytesV_length, rdR_len] at this
        rw [← hpc.out m hm1] at hv
        unfold bytesV at hv hc3
        rw [List.map_take, List.map_drop, ← hc3, List.getElem?_take, if_pos hj, List.getElem?_drop, List.getElem?_take, if_pos (by omega)] at hv
        simpa using hv) (by rw [bytesV_length, rdR_len]; simp only [List.size_toArray]; omega) (bytesV_one _)
      rw [bytesV_length, rdR_len] at hrun
      simp only at hrun
      rw [hst.out m (by omega)] at hrun
      have hgi : goInt m = .int .i64 (m : Int) := rfl
      rw [hgi] at hrun
      have hblk4 := setRow_heap w3 (w.heap.size + 1) _ (rbuf n B a c (d + m)).toArray 5 (0, 0) hg3'
      have hb4 : Below (w.heap.size + 1) w1 (w3.setRow (w.heap.size + 1) (rbuf n B a c (d + m)).toArray) := below_setRow (hb.trans (hb3.mono (by have := hb.size; omega))) (by omega) _
      have z0 := (hb4.cell (p := ⟨w.heap.size, 1, none⟩) (by show w.heap.size < _; omega)).trans x1
      have hb4' : Below w.heap.size w (w3.setRow (w.heap.size + 1) (rbuf n B a c (d + m)).toArray) := hb1.trans (hb4.mono (by omega))
      clear hm hg3' hbl hst hpc hgi
      go_wp2_with fail
      clear hrun
      generalize w3.setRow (w.heap.size + 1) (rbuf n B a c (d + m)).toArray = w4 at hblk4 hb4 z0 hb4' ⊢
      go_quiet (fail)
      all_goals go_wp2_with fail
      refine ⟨⟨d + m, _, by omega, ?_, by rw [Nat.sub_sub], fun hlt2 => if_neg (by omega), hblk4, below_drewN hb4⟩, ?_⟩
      · rw [← hmod.out m]
        simp
      · simp only [sLen]
        omega
    · have hdc : d = c := by omega
      subst hdc
      go_wp2_with fail
      go_ret2
      refine ⟨w.heap.size + 1, rfl, by omega, by have := hb.size; omega, ?_, hb1.trans (hb.mono (by omega))⟩
      intro j v hv
      rw [cell_of_row _ _ (0 + j) _ 5 (0, 0) hg]
      unfold rbuf
      simpa using hv
end Go.Proofs.YteaacodloabdcaaGreatDoor

namespace Go.Proofs.YteaacodloabdcaaGreatDoor
open Go.RowKit Go.Maps

/-- The places of some bytes of the ring. -/
def wpos (n a c : Nat) (p : Nat) : Prop := ∃ j, j < c ∧ p = 128 + (a + j) % ringN n
theorem mod_two {a j R : Nat} (ha : a < R) (hj : j < R) : (a + j) % R = if a + j < R then a + j else a + j - R := by
  split
  · rename_i h; exact Nat.mod_eq_of_lt h
  · rename_i h; rw [Nat.mod_eq_sub_mod (by omega), Nat.mod_eq_of_lt (by omega)]
/-- A sector with a piece written anew. -/
def patch (x : List UInt8) (f : Nat) (y : List UInt8) : List UInt8 := x.take f ++ y ++ x.drop (f + y.length)
theorem patch_len {x y : List UInt8} {f : Nat} (h : f + y.length ≤ x.length) : (patch x f y).length = x.length := by
  unfold patch; simp; omega
theorem patch_getD {x y : List UInt8} {f : Nat} (h : f + y.length ≤ x.length) (k : Nat) : (patch x f y).getD k 0 = if f ≤ k ∧ k < f + y.length then y.getD (k - f) 0 else x.getD k 0 := by
  unfold patch
  have hl : (x.take f).length = f := by simp; omega
  simp only [List.getD]
  rw [List.append_assoc]
  by_cases h1 : k < f
  · rw [List.getElem?_append_left (by omega), List.getElem?_take, if_pos h1, if_neg (by omega)]
  · rw [List.getElem?_append_right (by omega), hl]
    by_cases h2 : k < f + y.length
    · rw [List.getElem?_append_left (by omega), if_pos ⟨by omega, h2⟩]
    · rw [List.getElem?_append_right (by omega), List.getElem?_drop, if_neg (by omega)]
      congr 2; omega
theorem put_piece {n : Nat} {B : List UInt8} (hB : B.length = n * 64) {q : Nat} (hq : q < ringN n) {y : List UInt8} (hy : y.length ≤ 64 - q % 64) (p : Nat) :
    (put B (2 + q / 64) (patch (sec B (2 + q / 64)) (q % 64) y)).getD p 0 = if 128 + q ≤ p ∧ p < 128 + q + y.length then y.getD (p - (128 + q)) 0 else B.getD p 0 := by
  have hp := ring_place hq
  have hsl := sec_length hB (show 2 + q / 64 < n by omega)
  have hle : q % 64 + y.length ≤ (sec B (2 + q / 64)).length := by omega
  rw [put_getD hB (by omega) (by rw [patch_len hle, hsl])]
  by_cases e : p / 64 = 2 + q / 64
  · rw [if_pos e, patch_getD hle]
    by_cases h1 : 128 + q ≤ p ∧ p < 128 + q + y.length
    · rw [if_pos h1, if_pos (by omega)]; congr 1; omega
    · rw [if_neg h1, if_neg (by omega), sec_getD _ _ _ (by omega)]; congr 1; omega
  · rw [if_neg e, if_neg (by omega)]
/-- Some bytes of a record are in the ring. -/
structure Wrote (n : Nat) (B : List UInt8) (D : DataW Unit) (a : Nat) (s : List UInt8) (d : Nat) (B' : List UInt8) : Prop where
  al : Alike (wpos n a s.length) B B'
  aw : AlikeW (wpos n a s.length) B D
  wr : ∀ j, j < d → B'.getD (128 + (a + j) % ringN n) 0 = s.getD j 0
theorem Wrote.step {n : Nat} {B : List UInt8} {D : DataW Unit} {a : Nat} {s : List UInt8} {d : Nat} {B' : List UInt8} (h : Wrote n B D a s d B') (hB' : B'.length = n * 64) (hm : IsMap D) (ha : a < ringN n) (hs : s.length ≤ ringN n) (m : Nat) (hd : d + m ≤ s.length) (hm0 : 0 < m) (hm1 : m ≤ 64 - ((a + d) % ringN n) % 64) :
    Wrote n B (wput D (2 + ((a + d) % ringN n) / 64) (sec B' (2 + ((a + d) % ringN n) / 64))) a s (d + m) (put B' (2 + ((a + d) % ringN n) / 64) (patch (sec B' (2 + ((a + d) % ringN n) / 64)) (((a + d) % ringN n) % 64) ((s.drop d).take m))) := by
  have hq : (a + d) % ringN n < ringN n := Nat.mod_lt _ (by omega)
  have hyl : ((s.drop d).take m).length = m := by simp; omega
  have hroom := ring_room hq hm1
  have hpp := put_piece hB' hq (y := (s.drop d).take m) (by rw [hyl]; exact hm1)
  have hmt := mod_two (j := d) ha (by omega)
  have hin : ∀ t, t < m → (a + (d + t)) % ringN n = (a + d) % ringN n + t := fun t ht => by
    rw [← Nat.add_assoc, ← Nat.mod_add_mod, Nat.mod_eq_of_lt (by omega)]
  refine ⟨⟨?_, fun p hp => ?_⟩, h.aw.write h.al hm _, fun j hj => ?_⟩
  · have hpl := ring_place hq
    have hsl := sec_length hB' (show 2 + ((a + d) % ringN n) / 64 < n by omega)
    rw [put_length hB' (by omega) (by rw [patch_len (by omega), hsl]), ← hB', h.al.1]
  · rw [hpp, if_neg, h.al.2 p hp]
    rintro ⟨h1, h2⟩
    rw [hyl] at h2
    refine hp ⟨d + (p - 128 - (a + d) % ringN n), by omega, ?_⟩
    rw [hin _ (by omega)]; omega
  · rw [hpp]
    by_cases hjd : j < d
    · rw [if_neg, h.wr j hjd]
      rintro ⟨h1, h2⟩
      rw [hyl] at h2
      have hj2 := mod_two (j := j) ha (by omega)
      have := hin ((a + j) % ringN n - (a + d) % ringN n) (by omega)
      have h3 := mod_two (j := d + ((a + j) % ringN n - (a + d) % ringN n)) ha (by omega)
      split at hj2 <;> split at hmt <;> split at h3 <;> omega
    · have e : j = d + (j - d) := by omega
      have h4 := hin (j - d) (by omega)
      rw [← e] at h4
      rw [h4, hyl, if_pos (by omega)]
      have e2 : 128 + ((a + d) % ringN n + (j - d)) - (128 + (a + d) % ringN n) = j - d := by omega
      rw [e2]
      simp only [List.getD, List.getElem?_take, List.getElem?_drop, if_pos (show j - d < m by omega)]
      rw [← e]
end Go.Proofs.YteaacodloabdcaaGreatDoor

namespace Go.Proofs.YteaacodloabdcaaGreatDoor
open Go.RowKit Go.Maps

/-- The state of a write into the ring. -/
def RwI (db nb mb n cap : Nat) (B : List UInt8) (k : Nat) (left : Int) (down : Bool) (a : Nat) (s : List UInt8) (d : Nat) (w1 wr : World) : Prop :=
  ∃ k' B' D' left' down', DevAt wr db nb mb n cap B' k' D' left' down' ∧ k' ≤ k + d ∧ Keeps (fun x => x = db ∨ x = nb ∨ x = mb) w1 wr ∧ Wrote n B D' a s d B' ∧ (left = 0 → down = false → left' = 0 ∧ down' = false)
def RwP (db nb mb n cap : Nat) (B : List UInt8) (k : Nat) (left : Int) (down : Bool) (a : Nat) (s : List UInt8) (w : World) (e : Ending) (w' : World) : Prop :=
  ∃ code k' B' D' left' down' d, e = .returned (.int .i64 code) ∧ DevAt w' db nb mb n cap B' k' D' left' down' ∧ k' ≤ k + s.length ∧ Keeps (fun x => x = db ∨ x = nb ∨ x = mb) w w' ∧ Wrote n B D' a s d B' ∧ (left = 0 → down = false → code = 0 ∧ left' = 0 ∧ down' = false) ∧ ((code = 0 ∧ d = s.length) ∨ (code = 9 ∧ down' = true))

theorem keeps_drewN {S : Nat → Prop} {a w : World} (h : Keeps S a w) (n : Nat) : Keeps S a (w.drewN n) := ⟨h.os, h.tape, h.output, h.size, h.block⟩
theorem RwI.drewN {db nb mb n cap : Nat} {B : List UInt8} {k : Nat} {left : Int} {down : Bool} {a : Nat} {s : List UInt8} {d : Nat} {w1 wr : World} (h : RwI db nb mb n cap B k left down a s d w1 wr) (q : Nat) : RwI db nb mb n cap B k left down a s d w1 (wr.drewN q) := by
  obtain ⟨k', B', D', left', down', h1, h2, h3, h4, h5⟩ := h
  exact ⟨k', B', D', left', down', h1.keeps (keeps_drewN (Keeps.refl (fun _ => False) wr) q) (fun e => e) (fun e => e) (fun e => e), h2, keeps_drewN h3 q, h4, h5⟩
theorem patch_cells {cur : Array Value} {x y : List UInt8} {f : Nat} (hc : cur.toList.take 64 = bytesV x) (hx : x.length = 64) (h : f + y.length ≤ 64) : ∀ (j : Nat) (v : Value), (bytesV (patch x f y))[j]? = some v → (cur.toList.take f ++ bytesV y ++ cur.toList.drop (f + (bytesV y).length))[j]? = some v := by
  intro j v hv
  have hj : j < 64 := by
    have := (List.getElem?_eq_some_iff.1 hv).1
    rwa [bytesV_length, patch_len (by omega), hx] at this
  have hcl : 64 ≤ cur.toList.length := by
    have := congrArg List.length hc
    rw [List.length_take, bytesV_length, hx] at this
    omega
  unfold patch at hv
  rw [bytesV_append, bytesV_append, List.append_assoc] at hv
  rw [List.append_assoc, bytesV_length]
  have h1 : bytesV (x.take f) = cur.toList.take f := by
    have : bytesV (x.take f) = (bytesV x).take f := by simp [bytesV, List.map_take]
    rw [this, ← hc, List.take_take, Nat.min_eq_left (by omega)]
  have h2 : bytesV (x.drop (f + y.length)) = (cur.toList.take 64).drop (f + y.length) := by
    rw [hc]; simp [bytesV, List.map_drop]
  rw [h1, h2] at hv
  have hl : (cur.toList.take f).length = f := by rw [List.length_take]; omega
  by_cases h3 : j < f
  · rw [List.getElem?_append_left (by omega)] at hv ⊢; exact hv
  · rw [List.getElem?_append_right (by omega)] at hv ⊢
    rw [hl] at hv ⊢
    by_cases h4 : j - f < y.length
    · rw [List.getElem?_append_left (by rw [bytesV_length]; omega)] at hv ⊢; exact hv
    · rw [List.getElem?_append_right (by rw [bytesV_length]; omega)] at hv ⊢
      rw [bytesV_length, List.getElem?_drop] at hv ⊢
      rw [List.getElem?_take, if_pos (by omega)] at hv
      exact hv
set_option maxRecDepth 100000 in
set_option maxHeartbeats 2000000 in
theorem rwrite_at {w : World} {db nb mb n cap : Nat} {B : List UInt8} {k : Nat} {D : DataW Unit} {left : Int} {down : Bool} (h : DevAt w db nb mb n cap B k D left down) (a : Nat) (ha : a < ringN n) (g o bc : Nat) (s : List UInt8) (hs : s.length ≤ ringN n) (hbc : s.length ≤ bc) (hsrc : w.rangeAt g o (bytesV s)) (hgl : g < w.heap.size) (hgd : g ≠ db ∧ g ≠ nb ∧ g ≠ mb) (hk : k ≤ 100000) (hD : AlikeW (wpos n a s.length) B D) :
    Calls Tryz.prog 162 #[.agg #[.pointer (some ⟨db, 0, none⟩), .int .i64 (ringN n : Int)], .int .i64 (a : Int), .slice (some ⟨g, o, none⟩) s.length bc] w (RwP db nb mb n cap B k left down a s w) := by
  have hn2 := h.n2
  have hrb : ringN n ≤ 200000 := by unfold ringN; omega
  have hdl := h.dlt
  have hnl := h.nlt
  have hml := h.mlt
  go_enter Tryz.func162, Tryz.ntmps162
  go_wp2_with fail
  have hb1 : Below w.heap.size w (w.alloc (.cells #[.pointer (some ⟨db, 0, none⟩), .int .i64 (ringN n : Int)] 186)) := (Below.refl _ w).alloc (Nat.le_refl _) _
  have hs1 : (w.alloc (.cells #[.pointer (some ⟨db, 0, none⟩), .int .i64 (ringN n : Int)] 186)).heap.size = w.heap.size + 1 := by simp
  have x0 : (w.alloc (.cells #[.pointer (some ⟨db, 0, none⟩), .int .i64 (ringN n : Int)] 186)).cell? ⟨w.heap.size, 0, none⟩ = some (.pointer (some ⟨db, 0, none⟩)) := by simp
  have x1 : (w.alloc (.cells #[.pointer (some ⟨db, 0, none⟩), .int .i64 (ringN n : Int)] 186)).cell? ⟨w.heap.size, 1, none⟩ = some (.int .i64 (ringN n : Int)) := by simp
  generalize w.alloc (.cells #[.pointer (some ⟨db, 0, none⟩), .int .i64 (ringN n : Int)] 186) = w1 at hb1 hs1 x0 x1 ⊢
  have h1 := h.keeps (Keeps.of_below (S := fun _ => False) hb1) (fun e => e) (fun e => e) (fun e => e)
  have HI0 : Hid (RwI db nb mb n cap B k left down a s 0 w1 w1) := ⟨k, B, D, left, down, h1, by omega, Keeps.refl _ _, ⟨Alike.refl _ _, hD, fun j hj => by omega⟩, fun e1 e2 => ⟨e1, e2⟩⟩
  have HR : Hid (w1.rangeAt g o (bytesV s)) := fun j v hv => (hb1.cell (p := ⟨g, o + j, none⟩) hgl).trans (hsrc j v hv)
  clear h h1 hD hsrc
  go_loopw [1, 2] (fun s1 s2 wr => ∃ (d : Nat) (p : Option Addr), d ≤ s.length ∧ s1 = .int .i64 (((a + d) % ringN n : Nat) : Int) ∧ s2 = .slice p (s.length - d) (bc - d) ∧ (d < s.length → p = some ⟨g, o + d, none⟩) ∧ Hid (RwI db nb mb n cap B k left down a s d w1 wr)) (fun _ s2 _ => sLen s2)
  case atStart => exact ⟨0, _, Nat.zero_le _, by rw [Nat.add_zero, Nat.mod_eq_of_lt ha], rfl, fun _ => rfl, HI0⟩
  case round =>
    obtain ⟨d, p, hd, rfl, rfl, hpp, HI⟩ := hrel
    clear HI0
    have hq : (a + d) % ringN n < ringN n := Nat.mod_lt _ (by omega)
    have hp := ring_place hq
    by_cases hlt : d < s.length
    · obtain rfl := hpp hlt
      clear hpp
      obtain ⟨kd, Bd, Dd, ld, dd, hdv, hkd, hK, hW, hz⟩ := HI.out
      clear HI
      have y0 := (hK.cell (p := ⟨w.heap.size, 0, none⟩) (by show w.heap.size < _; omega) (by show ¬ (w.heap.size = db ∨ w.heap.size = nb ∨ w.heap.size = mb); omega)).trans x0
      have hBd := hdv.len
      have HS : Hid (∀ m, d + m ≤ s.length → 0 < m → m ≤ 64 - ((a + d) % ringN n) % 64 → Wrote n B (wput Dd (2 + ((a + d) % ringN n) / 64) (sec Bd (2 + ((a + d) % ringN n) / 64))) a s (d + m) (put Bd (2 + ((a + d) % ringN n) / 64) (patch (sec Bd (2 + ((a + d) % ringN n) / 64)) (((a + d) % ringN n) % 64) ((s.drop d).take m)))) := fun m e1 e2 e3 => hW.step hBd hdv.isMap ha hs m e1 e2 e3
      have HW : Hid (Wrote n B Dd a s d Bd) := hW
      have hmod : Hid (∀ m, ((a + d) % ringN n + m) % ringN n = (a + (d + m)) % ringN n) := fun m => by rw [Nat.mod_add_mod, Nat.add_assoc]
      have HK : Hid (Keeps (fun x => x = db ∨ x = nb ∨ x = mb) w1 wr) := hK
      have hKs := hK.size
      have hsl := sec_length hBd (show 2 + ((a + d) % ringN n) / 64 < n by omega)
      clear hW hK
      generalize (a + d) % ringN n = q at hq hp HS hmod hsl ⊢
      generalize hR : ringN n = R at *
      go_wp2_with fail
      refine (place_at q (by omega) wr).mono ?_
      rintro e w2 ⟨rfl, hw2⟩
      subst hw2
      go_wp2_with fail
      refine (read_blk hdv _ (2 + q / 64) rfl (by omega)).mono ?_
      rintro e w3 ⟨g3, c3, cur3, rfl, l3, hg3, hc3, hs3, hcc3, hb3⟩
      obtain ⟨m, hm⟩ : ∃ m, m = Nat.min (s.length - d) (64 - q % 64) := ⟨_, rfl⟩
      have hm1 : m ≤ 64 - q % 64 := by rw [hm]; exact Nat.min_le_right _ _
      have hm2 : m ≤ s.length - d := by rw [hm]; exact Nat.min_le_left _ _
      have hm3 : 0 < m := by rw [hm]; show 0 < min _ _; omega
      have hyl : ((s.drop d).take m).length = m := by simp; omega
      have hrun := run_copy_row (P := Tryz.prog) w3 67 67 3 5 g3 (q % 64) (64 - q % 64) (c3 - q % 64) ⟨g, o + d, none⟩ (s.length - d) (bc - d) cur3 5 (bytesV ((s.drop d).take m)) Tryz.underlying67 size5 hg3 (by rw [bytesV_length, hyl, hm]) (by
        intro j v hv
        rw [Addr.add_mid]
        have hj : j < m := by
          have := (List.getElem?_eq_some_iff.1 hv).1
          rwa [bytesV_length, hyl] at this
        have hv2 : (bytesV s)[d + j]? = some v := by
          unfold bytesV at hv ⊢
          rw [List.map_take, List.map_drop, List.getElem?_take, if_pos hj, List.getElem?_drop] at hv
          exact hv
        have hcell := HR.out (d + j) v hv2
        rw [show o + d + j = o + (d + j) by omega]
        exact (hb3.cell (p := ⟨g, o + (d + j), none⟩) (by show g < _; omega)).trans ((HK.out.cell (p := ⟨g, o + (d + j), none⟩) (by show g < _; omega) (by show ¬ (g = db ∨ g = nb ∨ g = mb); omega)).trans hcell)) (by rw [bytesV_length, hyl]; omega) (bytesV_one _)
      have hpc := patch_cells hc3 hsl (f := q % 64) (y := (s.drop d).take m) (by rw [hyl]; omega)
      have hgi : goInt (bytesV ((s.drop d).take m)).length = .int .i64 (m : Int) := by rw [bytesV_length, hyl]; rfl
      rw [hgi] at hrun
      have hblk4 := setRow_heap w3 g3 _ (cur3.toList.take (q % 64) ++ bytesV ((s.drop d).take m) ++ cur3.toList.drop (q % 64 + (bytesV ((s.drop d).take m)).length)).toArray 5 (0, 0) hg3
      have hb4 : Below w2.heap.size w2 (w3.setRow g3 (cur3.toList.take (q % 64) ++ bytesV ((s.drop d).take m) ++ cur3.toList.drop (q % 64 + (bytesV ((s.drop d).take m)).length)).toArray) := below_setRow hb3 l3 _
      have hr4 : (w3.setRow g3 (cur3.toList.take (q % 64) ++ bytesV ((s.drop d).take m) ++ cur3.toList.drop (q % 64 + (bytesV ((s.drop d).take m)).length)).toArray).rangeAt g3 0 (bytesV (patch (sec Bd (2 + q / 64)) (q % 64) ((s.drop d).take m))) := by
        intro j v hv
        rw [cell_of_row _ _ (0 + j) _ 5 (0, 0) hblk4]
        have := hpc j v hv
        simpa using this
      have hpl : (patch (sec Bd (2 + q / 64)) (q % 64) ((s.drop d).take m)).length = 64 := by rw [patch_len (by rw [hyl]; omega), hsl]
      have HS2 : Hid _ := HS.out m (by omega) hm3 hm1
      clear hm hpc hblk4 hc3 hs3 hgi HS hg3
      generalize patch (sec Bd (2 + q / 64)) (q % 64) ((s.drop d).take m) = sp at hr4 hpl HS2
      generalize (cur3.toList.take (q % 64) ++ bytesV ((s.drop d).take m) ++ cur3.toList.drop (q % 64 + (bytesV ((s.drop d).take m)).length)).toArray = row at hrun hb4 hr4
      have hdv4 := hdv.keeps (Keeps.of_below (S := fun _ => False) hb4) (fun e => e) (fun e => e) (fun e => e)
      have y4 := (hb4.cell (p := ⟨w.heap.size, 0, none⟩) (by show w.heap.size < _; omega)).trans y0
      have hmd := hdv.mlt
      clear hdv
      go_wp2_with fail
      clear hrun
      generalize w3.setRow g3 row = w4 at hb4 hr4 hdv4 y4 ⊢
      have hK4 : Keeps (fun x => x = db ∨ x = nb ∨ x = mb) w1 w4 := HK.out.trans (Keeps.of_below hb4)
      cases dd
      · refine (write_okv hdv4 _ (2 + q / 64) (by omega) (by omega) sp hpl g3 0 c3 hr4 (by omega) (by omega)).mono ?_
        rintro e w5 ⟨k5, hk5, rfl, h5, hK5⟩
        have hK15 := hK4.trans hK5
        have y5 := (hK15.cell (p := ⟨w.heap.size, 1, none⟩) (by show w.heap.size < _; omega) (by show ¬ (w.heap.size = db ∨ w.heap.size = nb ∨ w.heap.size = mb); omega)).trans x1
        have HI5 : Hid (RwI db nb mb n cap B k left down a s (d + m) w1 w5) := by
          refine ⟨k5, _, _, _, _, h5, by omega, hK15, HS2.out, fun e1 e2 => ?_⟩
          obtain ⟨e3, _⟩ := hz e1 e2
          subst e3
          exact ⟨rfl, rfl⟩
        clear h5 hK15 hK5 hK4 hdv4 hr4 hb4 HS2 HW hz
        go_wp2_with fail
        go_quiet (fail)
        all_goals go_wp2_with fail
        refine ⟨⟨d + m, _, by omega, ?_, by rw [Nat.sub_sub, Nat.sub_sub], fun hlt2 => (if_neg (by omega)).trans (by rw [Nat.add_assoc]), HI5.out.drewN _⟩, ?_⟩
        · rw [← hmod.out m]
          simp
        · simp only [sLen]
          omega
      · have hK04 : Keeps (fun x => x = db ∨ x = nb ∨ x = mb) w w4 := (Keeps.of_below hb1).trans hK4
        have HP : Hid (RwP db nb mb n cap B k left down a s w (.returned (.int .i64 9)) w4) := ⟨9, kd, Bd, Dd, ld, true, d, rfl, hdv4, by omega, hK04, HW.out, fun e1 e2 => (by cases (hz e1 e2).2), Or.inr ⟨rfl, rfl⟩⟩
        refine (write_down hdv4.c3 _ _).mono ?_
        rintro e w5 ⟨rfl, hw5⟩
        subst hw5
        clear hK4 hK04 hdv4 hr4 hb4 HS2 HW hz
        go_wp2_with fail
        go_ret
        exact HP.out
    · have hdc : d = s.length := by omega
      subst hdc
      obtain ⟨kd, Bd, Dd, ld, dd, hdv, hkd, hK, hW, hz⟩ := HI.out
      have HP : Hid (RwP db nb mb n cap B k left down a s w (.returned (.int .i64 0)) wr) := ⟨0, kd, Bd, Dd, ld, dd, s.length, rfl, hdv, hkd, (Keeps.of_below hb1).trans hK, hW, fun e1 e2 => ⟨rfl, hz e1 e2⟩, Or.inl ⟨rfl, rfl⟩⟩
      clear hdv hK hW hz HI hpp
      go_wp2_with fail
      go_ret
      exact HP.out
end Go.Proofs.YteaacodloabdcaaGreatDoor
