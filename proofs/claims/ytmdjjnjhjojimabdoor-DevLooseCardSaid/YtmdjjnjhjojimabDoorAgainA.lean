import Derived.Test.YtmdjjnjhjojimabDoorOwnA
import Derived.Test.YtmdjjnjhjojimabDoorIntsA
namespace Go.Proofs.YtmdjjnjhjojimabDoor
open Go.RowKit Go.Maps

theorem DevAt.isMap {w : World} {db nb mb n cap : Nat} {B : List UInt8} {k : Nat} {D : DataW Unit} {left : Int} {down : Bool} (h : DevAt w db nb mb n cap B k D left down) : IsMap D := by
  obtain ⟨es, clock, hb, F, hs, rfl⟩ := h.was
  exact ⟨_, rfl⟩
theorem wasOf_put (D : DataW Unit) (hD : IsMap D) (i x : Int) (s : List UInt8) : wasOf (D.put (.int .i64 i) (.lit (.string s))) x = if x = i then s else wasOf D x := by
  unfold wasOf
  by_cases h : x = i
  · subst h
    rw [if_pos rfl, atKey_put_same (k := .int .i64 x) hD (by simp [WideAt.IsKeyLit])]
  · rw [if_neg h, atKey_put_other (by intro e; cases e; exact h rfl)]
/-- What the map says has 64 bytes. -/
theorem DevAt.was_len {w : World} {db nb mb n cap : Nat} {B : List UInt8} {k : Nat} {D : DataW Unit} {left : Int} {down : Bool} (h : DevAt w db nb mb n cap B k D left down) (x : Int) (h0 : 0 ≤ x) (h1 : x < n) : (wasOf D x).length = 64 := by
  have hkey : keyOf Tryd.prog 3 (.int .i64 x) = some (.int .i64 x) := keyOf_int_mk Tryd.underlying3 (WalkArith.wf_i64 (by have := h.n2; omega))
  obtain ⟨v, ps, hrun, hv⟩ := h.was.lookup law3 Tryd.underlying70 (zero80 w) (secR_mk zsec rfl) hkey
  obtain ⟨s, hs, rfl, he⟩ := secR_inv hv
  simp only [Prod.mk.injEq] at he
  have e : wasOf D x = s := by simp only [wasOf, he.1]
  rw [e]; exact hs

def R200 : List UInt8 := List.replicate 64 200
/-- No sector is all 200, nor was one. -/
def Tame (B : List UInt8) (D : DataW Unit) : Prop := (∀ i, i < 64 → sec B i ≠ R200) ∧ ∀ x, wasOf D x ≠ R200
theorem wasOf_none (x : Int) : wasOf (.map []) x = zsec := rfl
theorem zsec_ne : zsec ≠ R200 := by decide
theorem sec_zero (n i : Nat) (hi : i < n) : sec (List.replicate (n * 64) 0) i = zsec := by
  unfold sec zsec
  rw [List.drop_replicate, List.take_replicate]
  congr 1
  omega
theorem tame_new : Tame (List.replicate (64 * 64) 0) (.map []) :=
  ⟨fun i hi => by rw [sec_zero 64 i hi]; exact zsec_ne, fun x => by rw [wasOf_none]; exact zsec_ne⟩
theorem tame_put {B : List UInt8} {D : DataW Unit} {i : Nat} {s : List UInt8} (hl : B.length = 64 * 64) (hi : i < 64) (hs : s.length = 64) (hne : s ≠ R200) (h : Tame B D) : Tame (put B i s) D := by
  refine ⟨fun j hj => ?_, h.2⟩
  by_cases e : j = i
  · subst e; rw [sec_put_same hl hi hs]; exact hne
  · rw [sec_put_other hl hi hs e]; exact h.1 j hj

theorem write_tame {w : World} {db nb mb cap : Nat} {B : List UInt8} {k : Nat} {D : DataW Unit} (h : DevAt w db nb mb 64 cap B k D 0 false) (ht : Tame B D) (i : Nat) (hi : i < 64) (s : List UInt8) (hs : s.length = 64) (hne : s ≠ R200)
    (sb so sc : Nat) (hsrc : w.rangeAt sb so (bytesV s)) (hsm : sb ≠ mb) (hkm : k ≤ 1000000) :
    Calls Tryd.prog 14 #[.pointer (some ⟨db, 0, none⟩), .int .i64 i, .slice (some ⟨sb, so, none⟩) 64 sc] w fun e w' => ∃ k' B' D', e = .returned (.int .i64 0) ∧ k' ≤ k + 1 ∧
      DevAt w' db nb mb 64 cap B' k' D' 0 false ∧ Tame B' D' ∧ Keeps (fun j => j = db ∨ j = nb ∨ j = mb) w w' := by
  have hk2 : k < maxLen := by unfold maxLen; omega
  cases hh : Maps.has D (.int .i64 i)
  · refine (write_new h i hi s hs sb so sc hsrc hsm hk2 hh).mono ?_
    rintro e w' ⟨h1, h2, h3⟩
    refine ⟨_, _, _, h1, Nat.le_refl _, h2, ⟨(tame_put h.len hi hs hne ht).1, fun x => ?_⟩, h3⟩
    rw [wasOf_put D h.isMap]
    split
    · exact ht.1 i hi
    · exact ht.2 x
  · refine (write_loose h i hi s hs sb so sc hsrc hh).mono ?_
    rintro e w' ⟨h1, h2, h3⟩
    exact ⟨_, _, _, h1, Nat.le_succ _, h2, tame_put h.len hi hs hne ht, h3⟩

theorem crashB_len {w : World} {db nb mb n cap : Nat} {B : List UInt8} {k : Nat} {D : DataW Unit} {left : Int} {down : Bool} (h : DevAt w db nb mb n cap B k D left down) (K : List Bool) (L : List Int) (hL : ∀ x ∈ L, 0 ≤ x ∧ x < n) :
    ∀ j, j ≤ L.length → (crashB D K L B j).length = n * 64
  | 0, _ => h.len
  | j + 1, hj => by
    have ih := crashB_len h K L hL j (by omega)
    have hx := hL _ (List.getElem_mem (show j < L.length by omega))
    unfold crashB
    split
    · exact ih
    · rw [getD_lt L j 0 (by omega)]
      exact put_length ih (by omega) (h.was_len _ hx.1 hx.2)
theorem crashB_tame {w : World} {db nb mb cap : Nat} {B : List UInt8} {k : Nat} {D : DataW Unit} {left : Int} {down : Bool} (h : DevAt w db nb mb 64 cap B k D left down) (ht : Tame B D) (K : List Bool) (L : List Int) (hL : ∀ x ∈ L, 0 ≤ x ∧ x < 64) :
    ∀ j, j ≤ L.length → ∀ i, i < 64 → sec (crashB D K L B j) i ≠ R200
  | 0, _, i, hi => ht.1 i hi
  | j + 1, hj, i, hi => by
    have ih := crashB_tame h ht K L hL j (by omega)
    have hl := crashB_len h K L hL j (by omega)
    have hx := hL _ (List.getElem_mem (show j < L.length by omega))
    unfold crashB
    split
    · exact ih i hi
    · rw [getD_lt L j 0 (by omega)]
      by_cases e : i = L[j].toNat
      · rw [e, sec_put_same hl (by omega) (h.was_len _ hx.1 hx.2)]; exact ht.2 _
      · rw [sec_put_other hl (by omega) (h.was_len _ hx.1 hx.2) e]; exact ih i hi

theorem crash_tame {w : World} {db nb mb cap : Nat} {B : List UInt8} {k : Nat} {D : DataW Unit} {left : Int} {down : Bool} (h : DevAt w db nb mb 64 cap B k D left down) (ht : Tame B D) (hk : k ≤ 1000000) (v : Value) (hv : KeepAt w v) :
    Calls Tryd.prog 19 #[.pointer (some ⟨db, 0, none⟩), v] w fun e w' => ∃ (B' : List UInt8) (db' nb' mb' cap' : Nat), e = .returned (.pointer (some ⟨db', 0, none⟩)) ∧
      w.heap.size ≤ db' ∧ w.heap.size ≤ nb' ∧ w.heap.size ≤ mb' ∧ DevAt w' db' nb' mb' 64 cap' B' 0 (.map []) 0 false ∧ (∀ i, i < 64 → sec B' i ≠ R200) ∧ Below w.heap.size w w' := by
  rcases hv with ⟨ka, kc, rfl⟩ | ⟨kb, ko, kc, K, rfl, _, hr⟩
  · refine (crash_none h hk ka kc).mono ?_
    rintro e w' ⟨L, db', nb', mb', cap', hp, _, r0, r1, r2, r3, r4, r5⟩
    exact ⟨_, db', nb', mb', cap', r0, r1, r2, r3, r4, crashB_tame h ht _ L (fun x hx => h.keys x (hp.subset hx)) _ (Nat.le_refl _), r5⟩
  · refine (crash_keep h hk kb ko K.length kc K rfl hr).mono ?_
    rintro e w' ⟨L, db', nb', mb', cap', hp, _, r0, r1, r2, r3, r4, r5⟩
    exact ⟨_, db', nb', mb', cap', r0, r1, r2, r3, r4, crashB_tame h ht _ L (fun x hx => h.keys x (hp.subset hx)) _ (Nat.le_refl _), r5⟩
/-- A crash of a device of which nothing is loose. -/
theorem crash_same {w : World} {db nb mb n cap : Nat} {B : List UInt8} {k : Nat} {left : Int} {down : Bool} (h : DevAt w db nb mb n cap B k (.map []) left down) (hk : k ≤ 1000000) (v : Value) (hv : KeepAt w v) :
    Calls Tryd.prog 19 #[.pointer (some ⟨db, 0, none⟩), v] w fun e w' => ∃ (db' nb' mb' cap' : Nat), e = .returned (.pointer (some ⟨db', 0, none⟩)) ∧
      w.heap.size ≤ db' ∧ w.heap.size ≤ nb' ∧ w.heap.size ≤ mb' ∧ DevAt w' db' nb' mb' n cap' B 0 (.map []) 0 false ∧ Below w.heap.size w w' := by
  rcases hv with ⟨ka, kc, rfl⟩ | ⟨kb, ko, kc, K, rfl, _, hr⟩
  · refine (crash_none h hk ka kc).mono ?_
    rintro e w' ⟨L, db', nb', mb', cap', hp, _, r⟩
    have : L = [] := List.perm_nil.1 hp
    subst this
    exact ⟨db', nb', mb', cap', r⟩
  · refine (crash_keep h hk kb ko K.length kc K rfl hr).mono ?_
    rintro e w' ⟨L, db', nb', mb', cap', hp, _, r⟩
    have : L = [] := List.perm_nil.1 hp
    subst this
    exact ⟨db', nb', mb', cap', r⟩
end Go.Proofs.YtmdjjnjhjojimabDoor
