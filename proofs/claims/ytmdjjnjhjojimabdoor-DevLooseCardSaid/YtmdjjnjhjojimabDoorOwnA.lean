import Derived.Test.YtmdjjnjhjojimabDoorDevI
namespace Go.Proofs.YtmdjjnjhjojimabDoor
open Go.RowKit Go.Maps

/-- Read, with what may be written. -/
theorem read_own {w : World} {db nb mb n cap : Nat} {B : List UInt8} {k : Nat} {D : DataW Unit} {left : Int} {down : Bool} (h : DevAt w db nb mb n cap B k D left down) (i : Nat) (hi : i < n) :
    Calls Tryd.prog 9 #[.pointer (some ⟨db, 0, none⟩), .int .i64 i] w fun e w' => ∃ g c, e = .returned (.tuple #[.slice (some ⟨g, 0, none⟩) 64 c, .int .i64 0]) ∧ w.heap.size ≤ g ∧ g < w'.heap.size ∧ w'.rangeAt g 0 (bytesV (sec B i)) ∧ (∀ o, w'.frozen? ⟨g, o, none⟩ = false) ∧ Below w.heap.size w w' := by
  refine (read_yes h i hi).mono ?_
  rintro e w' ⟨v, rfl, hrow, hne, hb⟩
  obtain ⟨hl, ⟨rfl, h0⟩ | ⟨g, cap, cur, rfl, hg, hblk, hnc, hcm, hcs, hcur⟩⟩ := hrow
  · exact absurd rfl hne
  · refine ⟨g, cap, rfl, hg, (Array.getElem?_eq_some_iff.1 hblk).1, ?_, ?_, hb⟩
    · intro j v hv
      rw [cell_of_row _ _ (0 + j) cur 5 (0, 0) hblk]
      rw [← hcur, List.getElem?_take] at hv
      split at hv
      · simpa using hv
      · cases hv
    · intro o
      simp [World.frozen?, hblk]

/-- A slice of bools, as Crash takes it. -/
def KeepAt (w : World) (v : Value) : Prop := (∃ ka kc, v = .slice ka 0 kc) ∨ ∃ kb ko kc, ∃ K : List Bool, v = .slice (some ⟨kb, ko, none⟩) K.length kc ∧ 0 < K.length ∧ w.rangeAt kb ko (K.map Value.bool)
theorem KeepAt.below {w w' : World} {v : Value} (h : KeepAt w v) (hb : Below w.heap.size w w') : KeepAt w' v := by
  rcases h with h | ⟨kb, ko, kc, K, h1, h0, h2⟩
  · exact Or.inl h
  · exact Or.inr ⟨kb, ko, kc, K, h1, h0, fun j u hu => (hb.cell (p := ⟨kb, ko + j, none⟩) (World.block_lt_of_cell? _ _ (h2 j u hu))).trans (h2 j u hu)⟩
theorem crash_any {w : World} {db nb mb n cap : Nat} {B : List UInt8} {k : Nat} {D : DataW Unit} {left : Int} {down : Bool} (h : DevAt w db nb mb n cap B k D left down) (hk : k ≤ 1000000) (v : Value) (hv : KeepAt w v) :
    Calls Tryd.prog 19 #[.pointer (some ⟨db, 0, none⟩), v] w fun e w' => ∃ (B' : List UInt8) (db' nb' mb' cap' : Nat), e = .returned (.pointer (some ⟨db', 0, none⟩)) ∧
      w.heap.size ≤ db' ∧ w.heap.size ≤ nb' ∧ w.heap.size ≤ mb' ∧ DevAt w' db' nb' mb' n cap' B' 0 (.map []) 0 false ∧ Below w.heap.size w w' := by
  rcases hv with ⟨ka, kc, rfl⟩ | ⟨kb, ko, kc, K, rfl, _, hr⟩
  · exact (crash_none h hk ka kc).mono (fun e w' ⟨L, db', nb', mb', cap', _, _, r⟩ => ⟨_, db', nb', mb', cap', r⟩)
  · exact (crash_keep h hk kb ko K.length kc K rfl hr).mono (fun e w' ⟨L, db', nb', mb', cap', _, _, r⟩ => ⟨_, db', nb', mb', cap', r⟩)

/-- The map behind one Write. -/
def oneD (i : Nat) (s : List UInt8) : DataW Unit := (DataW.map []).put (.int .i64 i) (.lit (.string s))
theorem oneD_keys (i : Nat) (s : List UInt8) : intKeys (oneD i s) = [(i : Int)] := by
  simp [oneD, DataW.put, DataW.insert, intKeys]
  rfl
theorem loose_one {w : World} {db nb mb n cap : Nat} {B : List UInt8} {k i : Nat} {s : List UInt8} {left : Int} {down : Bool} (h : DevAt w db nb mb n cap B k (oneD i s) left down) (hk : k ≤ 1000000) :
    Calls Tryd.prog 17 #[.pointer (some ⟨db, 0, none⟩)] w fun e w' => ∃ g c, e = .returned (.slice (some ⟨g, 0, none⟩) 1 c) ∧ w'.cell? ⟨g, 0, none⟩ = some (.int .i64 i) ∧ Below w.heap.size w w' := by
  refine (loose_row h hk).mono ?_
  rintro e w' ⟨L, _, hp, _, hb, hc⟩
  rw [oneD_keys] at hp
  obtain rfl := List.perm_singleton.1 hp
  rcases hc with ⟨_, x⟩ | ⟨g, c, rfl, _, _, hr⟩
  · cases x
  · exact ⟨g, c, rfl, by have := hr 0 (.int .i64 i) rfl; simpa using this, hb⟩
end Go.Proofs.YtmdjjnjhjojimabDoor
