import Derived.Test.YteaacodloabdcaaGreatDoorProg
import Derived.WalkKit
import Derived.WalkSpells
import Derived.WalkLawsBesides
import Derived.Maps.OwnSet
import Derived.Deep.MidRow
import Derived.StillTailTactics
import Derived.Deep.WholeRow
import Derived.Lib.SlKeysI
namespace Go.Proofs.YteaacodloabdcaaGreatDoor
open Go.RowKit Go.Maps

theorem down_any (db : Nat) (b : Bool) (w : World) (h3 : w.cell? ⟨db, 3, none⟩ = some (.bool b)) :
    Calls Tryz.prog 176 #[.pointer (some ⟨db, 0, none⟩)] w fun e w' => e = .returned (.bool b) ∧ w' = w := by
  go_enter Tryz.func176, Tryz.ntmps176
  go_wp2
  go_ret
  exact ⟨rfl, rfl⟩

theorem down_nil (w : World) :
    Calls Tryz.prog 176 #[.pointer none] w fun e w' => e = .returned (.bool true) ∧ w' = w := by
  go_enter Tryz.func176, Tryz.ntmps176
  go_wp2
  go_ret
  exact ⟨rfl, rfl⟩

theorem has_yes (db nb cap n : Nat) (i : Int) (w : World) (h0 : w.cell? ⟨db, 0, none⟩ = some (.slice (some ⟨nb, 0, none⟩) n cap)) (hi : 0 ≤ i) (hn : i < n) :
    Calls Tryz.prog 177 #[.pointer (some ⟨db, 0, none⟩), .int .i64 i] w fun e w' => e = .returned (.bool true) ∧ w' = w := by
  go_enter Tryz.func177, Tryz.ntmps177
  go_wp2
  go_ret
  exact ⟨by simp, rfl⟩
theorem has_no (db nb cap n : Nat) (i : Int) (w : World) (h0 : w.cell? ⟨db, 0, none⟩ = some (.slice (some ⟨nb, 0, none⟩) n cap)) (hi : i < 0 ∨ n ≤ i) :
    Calls Tryz.prog 177 #[.pointer (some ⟨db, 0, none⟩), .int .i64 i] w fun e w' => e = .returned (.bool false) ∧ w' = w := by
  rcases hi with hi | hi
  · go_enter Tryz.func177, Tryz.ntmps177
    go_wp2
    go_ret
    exact ⟨rfl, rfl⟩
  · have h0' : 0 ≤ i := by omega
    go_enter Tryz.func177, Tryz.ntmps177
    go_wp2
    go_ret
    exact ⟨by simp [hi], rfl⟩

theorem burn_zero (db : Nat) (w : World) (h2 : w.cell? ⟨db, 2, none⟩ = some (.int .i64 0)) :
    Calls Tryz.prog 178 #[.pointer (some ⟨db, 0, none⟩)] w fun e w' => e = .returned (.tuple #[]) ∧ w' = w := by
  go_enter Tryz.func178, Tryz.ntmps178
  go_wp2
  first | go_end0 | refine bodyPost_ret (results_none rfl _ _ _) rfl ?_
  exact ⟨rfl, rfl⟩
theorem burn_some (db : Nat) (l : Int) (b : Bool) (w : World) (h2 : w.cell? ⟨db, 2, none⟩ = some (.int .i64 l)) (h3 : w.cell? ⟨db, 3, none⟩ = some (.bool b)) (f2 : w.frozen? ⟨db, 2, none⟩ = false) (f3 : w.frozen? ⟨db, 3, none⟩ = false) (hl : (l == 0) = false) (hl0 : 0 ≤ l) (hl1 : l ≤ 9223372036854775807) :
    Calls Tryz.prog 178 #[.pointer (some ⟨db, 0, none⟩)] w fun e w' => e = .returned (.tuple #[]) ∧ w' = (w.setCell ⟨db, 2, none⟩ (.int .i64 (l - 1))).setCell ⟨db, 3, none⟩ (.bool (l - 1 == 0)) := by
  go_enter Tryz.func178, Tryz.ntmps178
  go_wp2
  go_end0
  exact ⟨rfl, rfl⟩

theorem holding_any (nb n cap : Nat) (w : World) :
    Calls Tryz.prog 116 #[.slice (some ⟨nb, 0, none⟩) n cap] w fun e w' => e = .returned (.pointer (some ⟨w.heap.size + 1, 0, none⟩)) ∧ w' = (w.alloc (.map #[] 0)).alloc (.cells #[.slice (some ⟨nb, 0, none⟩) n cap, .map (some w.heap.size), .int .i64 0, .bool false] 181) := by
  have hmm := @run_makeMap Tryz.prog
  go_enter Tryz.func116, Tryz.ntmps116
  go_wp2
  go_ret
  exact ⟨rfl, rfl⟩
end Go.Proofs.YteaacodloabdcaaGreatDoor

namespace Go.Proofs.YteaacodloabdcaaGreatDoor
open Go.RowKit Go.Maps

/-- A byte as a cell. -/
def bV (b : UInt8) : Value := .int .u8 b.toNat
def bytesV (s : List UInt8) : List Value := s.map bV
theorem bytesV_length (s : List UInt8) : (bytesV s).length = s.length := by simp [bytesV]
theorem bytesV_append (s t : List UInt8) : bytesV (s ++ t) = bytesV s ++ bytesV t := by simp [bytesV]
theorem bytesV_one (s : List UInt8) : ∀ v ∈ bytesV s, v.oneCell' = true := by
  intro v hv
  simp only [bytesV, List.mem_map] at hv
  obtain ⟨b, _, rfl⟩ := hv
  rfl
/-- The bytes of cells. -/
def unB : List Value → Option (List UInt8)
  | [] => some []
  | .int .u8 n :: r => if 0 ≤ n ∧ n < 256 then (unB r).map (UInt8.ofNat n.toNat :: ·) else none
  | _ => none
theorem unB_bytesV (s : List UInt8) : unB (bytesV s) = some s := by
  induction s with
  | nil => rfl
  | cons b r ih =>
    have h : (b.toNat : Int) < 256 := by have := b.toNat_lt; omega
    have e : unB (bytesV (b :: r)) = (unB (bytesV r)).map (b :: ·) := by
      show (if 0 ≤ (b.toNat : Int) ∧ (b.toNat : Int) < 256 then (unB (bytesV r)).map (UInt8.ofNat (b.toNat : Int).toNat :: ·) else none) = _
      rw [if_pos ⟨by omega, h⟩]
      simp
    rw [e, ih]; rfl
theorem unB_inv : ∀ (cs : List Value) (s : List UInt8), unB cs = some s → cs = bytesV s
  | [], s, h => by simp [unB] at h; subst h; rfl
  | c :: r, s, h => by
    unfold unB at h
    split at h
    · cases ‹_ :: _ = []›
    · rename_i n r' heq
      cases heq
      split at h
      · rename_i hn
        cases hr : unB r with
        | none => simp [hr] at h
        | some s' =>
          simp [hr] at h
          subst h
          have := unB_inv r s' hr
          subst this
          have h1 : n.toNat < 256 := by omega
          have h2 : (UInt8.ofNat n.toNat).toNat = n.toNat := by simp [UInt8.toNat_ofNat', Nat.mod_eq_of_lt h1]
          show _ = bytesV (_ :: s')
          simp only [bytesV, List.map_cons, bV, h2]
          rw [Int.toNat_of_nonneg hn.1]
      · cases h
    · cases h
/-- How a sector in the map reads. -/
def secR {H : Type} : Value → Option (DataW H × List MemPlace)
  | .agg cs => (unB cs.toList).bind fun s => if s.length = 64 then some (.lit (.string s), []) else none
  | _ => none
theorem secR_mk {H : Type} (s : List UInt8) (h : s.length = 64) : secR (H := H) (.agg (bytesV s).toArray) = some (.lit (.string s), []) := by
  simp [secR, unB_bytesV, h]
theorem secR_inv {H : Type} {v : Value} {z : DataW H × List MemPlace} (h : secR v = some z) : ∃ s : List UInt8, s.length = 64 ∧ v = .agg (bytesV s).toArray ∧ z = (.lit (.string s), []) := by
  unfold secR at h
  split at h
  · rename_i cs
    cases hs : unB cs.toList with
    | none => simp [hs] at h
    | some s =>
      simp [hs] at h
      have := unB_inv _ _ hs
      exact ⟨s, h.1, by rw [← this], h.2.symm⟩
  · cases h

/-- Sector i of the bytes. -/
def sec (B : List UInt8) (i : Nat) : List UInt8 := (B.drop (64 * i)).take 64
theorem sec_length {B : List UInt8} {n i : Nat} (h : B.length = n * 64) (hi : i < n) : (sec B i).length = 64 := by
  simp [sec, h]; omega
/-- The bytes with sector i written anew. -/
def put (B : List UInt8) (i : Nat) (s : List UInt8) : List UInt8 := B.take (64 * i) ++ (s ++ B.drop (64 * i + 64))
theorem put_length {B : List UInt8} {n i : Nat} {s : List UInt8} (h : B.length = n * 64) (hi : i < n) (hs : s.length = 64) : (put B i s).length = n * 64 := by
  simp [put, h, hs]; omega
theorem sec_put_same {B : List UInt8} {n i : Nat} {s : List UInt8} (h : B.length = n * 64) (hi : i < n) (hs : s.length = 64) : sec (put B i s) i = s := by
  unfold sec put
  have e : (B.take (64 * i)).length = 64 * i := by simp [h]; omega
  rw [List.drop_append_of_le_length (by omega), List.drop_of_length_le (by omega), List.nil_append, ← hs, List.take_left']
  rfl
theorem sec_put_other {B : List UInt8} {n i j : Nat} {s : List UInt8} (h : B.length = n * 64) (hi : i < n) (hs : s.length = 64) (hij : j ≠ i) : sec (put B i s) j = sec B j := by
  unfold sec put
  have e : (B.take (64 * i)).length = 64 * i := by simp [h]; omega
  apply List.ext_getElem?
  intro k
  simp only [List.getElem?_take, List.getElem?_drop]
  by_cases hk : k < 64
  · rw [if_pos hk, if_pos hk]
    rcases Nat.lt_or_ge j i with hlt | hge
    · rw [List.getElem?_append_left (by omega)]
      rw [List.getElem?_take, if_pos (by omega)]
    · rw [List.getElem?_append_right (by omega), List.getElem?_append_right (by omega), List.getElem?_drop]
      congr 1; omega
  · rw [if_neg hk, if_neg hk]

/-- Everything but the blocks of S is as it was. -/
structure Keeps (S : Nat → Prop) (w w' : World) : Prop where
  os : w'.os = w.os
  tape : w'.tape = w.tape
  output : w'.output = w.output
  size : w.heap.size ≤ w'.heap.size
  block : ∀ i, i < w.heap.size → ¬ S i → w'.heap[i]? = w.heap[i]?

theorem Keeps.refl (S : Nat → Prop) (w : World) : Keeps S w w := ⟨rfl, rfl, rfl, Nat.le_refl _, fun _ _ _ => rfl⟩
theorem Keeps.trans {S : Nat → Prop} {a b c : World} (h : Keeps S a b) (k : Keeps S b c) : Keeps S a c :=
  ⟨k.os.trans h.os, k.tape.trans h.tape, k.output.trans h.output, Nat.le_trans h.size k.size, fun i hi hs => (k.block i (Nat.lt_of_lt_of_le hi h.size) hs).trans (h.block i hi hs)⟩
theorem Keeps.mono {S T : Nat → Prop} {a b : World} (h : Keeps S a b) (hT : ∀ i, S i → T i) : Keeps T a b :=
  ⟨h.os, h.tape, h.output, h.size, fun i hi hs => h.block i hi (fun x => hs (hT i x))⟩
theorem Keeps.drew {S : Nat → Prop} {a w : World} (h : Keeps S a w) : Keeps S a w.drew := ⟨h.os, h.tape, h.output, h.size, h.block⟩
theorem Keeps.of_below {S : Nat → Prop} {a b : World} (h : Below a.heap.size a b) : Keeps S a b := ⟨h.os, h.tape, h.output, h.size, fun i hi _ => h.block i hi⟩
theorem Keeps.below {S : Nat → Prop} {a b : World} {B : Nat} (h : Keeps S a b) (hB : B ≤ a.heap.size) (hS : ∀ i, S i → B ≤ i) : Below B a b :=
  ⟨h.os, h.tape, h.output, h.size, fun i hi => h.block i (by omega) (fun x => by have := hS i x; omega)⟩
theorem Keeps.setCell {S : Nat → Prop} {a w : World} (h : Keeps S a w) {p : Addr} (hp : S p.block) (u : Value) : Keeps S a (w.setCell p u) :=
  h.trans ⟨rfl, rfl, rfl, by simp [World.setCell], fun i _ hs => Below.heap_setCell _ _ _ _ (fun e => hs (e ▸ hp))⟩
theorem Keeps.alloc {S : Nat → Prop} {a w : World} (h : Keeps S a w) (o : Obj) : Keeps S a (w.alloc o) :=
  h.trans ⟨rfl, rfl, rfl, by simp, fun i hi _ => Below.heap_alloc _ _ _ hi⟩
theorem Keeps.setCells {S : Nat → Prop} {b : Nat} (hb : S b) : ∀ (vs : List Value) (o : Nat) {a w : World}, Keeps S a w → Keeps S a (w.setCells b o vs)
  | [], _, _, _, h => h
  | v :: r, o, a, w, h => by
    rw [World.setCells]
    exact Keeps.setCells hb r (o + 1) (h.setCell (p := ⟨b, o, none⟩) hb v)
theorem Keeps.grown {S : Nat → Prop} {a w w' : World} {row : Option Nat} (h : Keeps S a w) (hg : w.grownBy w' row) (hr : ∀ k, row = some k → S k) : Keeps S a w' :=
  h.trans ⟨hg.os, hg.tape, hg.output, hg.size, fun i hi hs => hg.block i hi (fun e => hs (hr i e.symm))⟩
theorem Keeps.cell {S : Nat → Prop} {a b : World} (h : Keeps S a b) {p : Addr} (hp : p.block < a.heap.size) (hs : ¬ S p.block) : b.cell? p = a.cell? p := World.cell?_of_block (w := a) (h.block _ hp hs)
theorem Keeps.frozen {S : Nat → Prop} {a b : World} (h : Keeps S a b) {p : Addr} (hp : p.block < a.heap.size) (hs : ¬ S p.block) : b.frozen? p = a.frozen? p := World.frozen?_of_block (w := a) (h.block _ hp hs)

/-- A device in memory: its block db, its sectors' block nb, its map's block mb. -/
structure DevAt (w : World) (db nb mb n cap : Nat) (B : List UInt8) (k : Nat) (D : DataW Unit) (left : Int) (down : Bool) : Prop where
  c0 : w.cell? ⟨db, 0, none⟩ = some (.slice (some ⟨nb, 0, none⟩) n cap)
  c1 : w.cell? ⟨db, 1, none⟩ = some (.map (some mb))
  c2 : w.cell? ⟨db, 2, none⟩ = some (.int .i64 left)
  c3 : w.cell? ⟨db, 3, none⟩ = some (.bool down)
  f : ∀ o, w.frozen? ⟨db, o, none⟩ = false
  now : w.rangeAt nb 0 (bytesV B)
  thr : w.there nb 0 (n * 64)
  len : B.length = n * 64
  was : w.ownsMap Tryz.prog 3 secR mb k D
  ne1 : db ≠ nb
  ne2 : mb ≠ db
  ne3 : mb ≠ nb
  n1 : 64 ≤ n
  n2 : n ≤ 4096
  keys : ∀ x ∈ intKeys D, 0 ≤ x ∧ x < n
  l0 : 0 ≤ left
  l1 : left ≤ 9223372036854775807

theorem DevAt.dlt {w : World} {db nb mb n cap : Nat} {B : List UInt8} {k : Nat} {D : DataW Unit} {left : Int} {down : Bool} (h : DevAt w db nb mb n cap B k D left down) : db < w.heap.size := World.block_lt_of_cell? w _ h.c0
theorem DevAt.nlt {w : World} {db nb mb n cap : Nat} {B : List UInt8} {k : Nat} {D : DataW Unit} {left : Int} {down : Bool} (h : DevAt w db nb mb n cap B k D left down) : nb < w.heap.size := by
  have h1 := (h.thr 0 (by have := h.n1; omega)).1
  obtain ⟨u, hu⟩ := Option.isSome_iff_exists.1 h1
  exact World.block_lt_of_cell? w _ hu
theorem DevAt.mlt {w : World} {db nb mb n cap : Nat} {B : List UInt8} {k : Nat} {D : DataW Unit} {left : Int} {down : Bool} (h : DevAt w db nb mb n cap B k D left down) : mb < w.heap.size := h.was.lt

/-- It stays while other blocks turn. -/
theorem DevAt.keeps {S : Nat → Prop} {w w' : World} {db nb mb n cap : Nat} {B : List UInt8} {k : Nat} {D : DataW Unit} {left : Int} {down : Bool} (h : DevAt w db nb mb n cap B k D left down) (hk : Keeps S w w')
    (s1 : ¬ S db) (s2 : ¬ S nb) (s3 : ¬ S mb) : DevAt w' db nb mb n cap B k D left down :=
  { h with
    c0 := (hk.cell (p := ⟨db, 0, none⟩) h.dlt s1).trans h.c0
    c1 := (hk.cell (p := ⟨db, 1, none⟩) h.dlt s1).trans h.c1
    c2 := (hk.cell (p := ⟨db, 2, none⟩) h.dlt s1).trans h.c2
    c3 := (hk.cell (p := ⟨db, 3, none⟩) h.dlt s1).trans h.c3
    f := fun o => (hk.frozen (p := ⟨db, o, none⟩) h.dlt s1).trans (h.f o)
    now := fun j v hv => (hk.cell (p := ⟨nb, 0 + j, none⟩) h.nlt s2).trans (h.now j v hv)
    thr := fun j hj => ⟨by rw [hk.cell (p := ⟨nb, 0 + j, none⟩) h.nlt s2]; exact (h.thr j hj).1, by rw [hk.frozen (p := ⟨nb, 0 + j, none⟩) h.nlt s2]; exact (h.thr j hj).2⟩
    was := by
      have hlt := h.was.lt
      obtain ⟨es, clock, hb, F, hs, hD⟩ := h.was
      exact ⟨es, clock, (hk.block mb hlt s3).trans hb, F, hs, hD⟩ }
end Go.Proofs.YteaacodloabdcaaGreatDoor
