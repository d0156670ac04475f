import Derived.Test.YteaacodloabdcaaGreatDoorCrashA
import Derived.Test.YteaacodloabdcaaGreatDoorLeastA
import Derived.Test.YteaacodloabdcaaGreatDoorDevI
namespace Go.Proofs.YteaacodloabdcaaGreatDoor
open Go.RowKit Go.Maps

theorem DevAt.isMap {w : World} {db nb mb n cap : Nat} {B : List UInt8} {k : Nat} {D : DataW Unit} {left : Int} {down : Bool} (h : DevAt w db nb mb n cap B k D left down) : IsMap D := by
  obtain ⟨es, clock, hb, F, hs, rfl⟩ := h.was
  exact ⟨_, rfl⟩
theorem wasOf_put (D : DataW Unit) (hD : IsMap D) (i x : Int) (s : List UInt8) : wasOf (D.put (.int .i64 i) (.lit (.string s))) x = if x = i then s else wasOf D x := by
  unfold wasOf
  by_cases h : x = i
  · subst h
    rw [if_pos rfl, atKey_put_same (k := .int .i64 x) hD (by simp [WideAt.IsKeyLit])]
  · rw [if_neg h, atKey_put_other (by intro e; cases e; exact h rfl)]
/-- What the map says has 64 bytes. -/
theorem DevAt.was_len {w : World} {db nb mb n cap : Nat} {B : List UInt8} {k : Nat} {D : DataW Unit} {left : Int} {down : Bool} (h : DevAt w db nb mb n cap B k D left down) (x : Int) (h0 : 0 ≤ x) (h1 : x < n) : (wasOf D x).length = 64 := by
  have hkey : keyOf Tryz.prog 3 (.int .i64 x) = some (.int .i64 x) := keyOf_int_mk Tryz.underlying3 (WalkArith.wf_i64 (by have := h.n2; omega))
  obtain ⟨v, ps, hrun, hv⟩ := h.was.lookup law3 Tryz.underlying179 (zero80 w) (secR_mk zsec rfl) hkey
  obtain ⟨s, hs, rfl, he⟩ := secR_inv hv
  simp only [Prod.mk.injEq] at he
  have e : wasOf D x = s := by simp only [wasOf, he.1]
  rw [e]; exact hs
theorem sec_zero (n i : Nat) (hi : i < n) : sec (List.replicate (n * 64) 0) i = zsec := by
  unfold sec zsec
  rw [List.drop_replicate, List.take_replicate]
  congr 1
  omega
theorem crashB_len {w : World} {db nb mb n cap : Nat} {B : List UInt8} {k : Nat} {D : DataW Unit} {left : Int} {down : Bool} (h : DevAt w db nb mb n cap B k D left down) (K : List Bool) (L : List Int) (hL : ∀ x ∈ L, 0 ≤ x ∧ x < n) :
    ∀ j, j ≤ L.length → (crashB D K L B j).length = n * 64
  | 0, _ => h.len
  | j + 1, hj => by
    have ih := crashB_len h K L hL j (by omega)
    have hx := hL _ (List.getElem_mem (show j < L.length by omega))
    unfold crashB
    split
    · exact ih
    · rw [getD_lt L j 0 (by omega)]
      exact put_length ih (by omega) (h.was_len _ hx.1 hx.2)

abbrev ik (x : Int) : Lit := .int .i64 x
theorem ik_key (x : Int) : WideAt.IsKeyLit (ik x) := by simp [WideAt.IsKeyLit]
theorem nodup_inj {L : List Int} (h : L.Nodup) {i j : Nat} {hi : i < L.length} {hj : j < L.length} (e : L[i] = L[j]) : i = j := by
  have hp := List.pairwise_iff_getElem.1 h
  rcases Nat.lt_trichotomy i j with hlt | rfl | hlt
  · exact absurd e (hp i j hi hj hlt)
  · rfl
  · exact absurd e.symm (hp j i hj hi hlt)
theorem ik_ne {x y : Int} (h : x ≠ y) : ik x ≠ ik y := fun e => by cases e; exact h rfl
/-- A map's keys, as numbers. -/
theorem own_keys {R : Value → Option (DataW Unit × List MemPlace)} {w : World} {b n : Nat} {D : DataW Unit} (h : w.ownsMap Tryz.prog 3 R b n D) : (intKeys D).Nodup ∧ ∀ x, x ∈ intKeys D ↔ has D (ik x) = true := by
  obtain ⟨es, hD, hpw, _⟩ := h.entries law3
  obtain ⟨es', hD', hko⟩ := h.keysOf
  obtain rfl : es = es' := by rw [hD] at hD'; simpa using hD'
  subst hD
  have hk : ∀ p ∈ es, ∃ x, p.1 = .int .i64 x := fun p hp => by obtain ⟨v, hv⟩ := hko p hp; obtain ⟨x, _, hx, _⟩ := Maps.keyOf_i64 Tryz.underlying3 hv; exact ⟨x, hx⟩
  constructor
  · unfold intKeys
    refine List.pairwise_map.2 (hpw.imp_of_mem fun {p q} hp' hq' hne e => hne ?_)
    obtain ⟨a, ha⟩ := hk p hp'
    obtain ⟨b, hb⟩ := hk q hq'
    rw [ha, hb] at e ⊢
    exact congrArg _ e
  · intro x
    rw [has_eq, List.any_eq_true]
    unfold intKeys
    rw [List.mem_map]
    constructor
    · rintro ⟨p, hp', rfl⟩
      obtain ⟨a, ha⟩ := hk p hp'
      exact ⟨p, hp', by rw [ha]; simp [Lit.sameKey, Go.intOf]⟩
    · rintro ⟨p, hp', hs⟩
      obtain ⟨a, ha⟩ := hk p hp'
      rw [ha] at hs
      exact ⟨p, hp', by rw [ha]; simpa [Lit.sameKey, Go.intOf] using hs⟩
theorem own_tidy {R : Value → Option (DataW Unit × List MemPlace)} {w : World} {b n : Nat} {D : DataW Unit} (h : w.ownsMap Tryz.prog 3 R b n D) : Tidy D := by
  obtain ⟨es, hD, hpw, _⟩ := h.entries law3
  exact ⟨es, hD, hpw⟩
theorem sorted_one {L L' M : List Int} (h : L.Perm M) (h' : L'.Perm M) (s : L.Pairwise (fun x y => x ≤ y)) (s' : L'.Pairwise (fun x y => x ≤ y)) : L = L' :=
  List.Perm.eq_of_pairwise (le := fun a b => a ≤ b) (fun _ _ _ _ h1 h2 => Int.le_antisymm h1 h2) s s' (h.trans h'.symm)
theorem has_put (D : DataW Unit) (hD : IsMap D) (i x : Int) (d : DataW Unit) : has (D.put (ik i) d) (ik x) = if x = i then true else has D (ik x) := by
  by_cases h : x = i
  · subst h; rw [if_pos rfl, has_put_same hD (ik_key x)]
  · rw [if_neg h, has_put_other (ik_ne h)]

/-- What a crash leaves of a sector. -/
theorem crash_sec {w : World} {db nb mb n cap : Nat} {B : List UInt8} {k : Nat} {D : DataW Unit} {left : Int} {down : Bool} (h : DevAt w db nb mb n cap B k D left down) (K : List Bool) (L : List Int) (hL : ∀ x ∈ L, 0 ≤ x ∧ x < n) (hnd : L.Nodup) (i : Nat) (hi : i < n) :
    ∀ m, m ≤ L.length → ((i : Int) ∉ L.take m → sec (crashB D K L B m) i = sec B i) ∧ (∀ p, p < m → L.getD p 0 = (i : Int) → sec (crashB D K L B m) i = if K.getD p false = true then sec B i else wasOf D i)
  | 0, _ => ⟨fun _ => rfl, fun p hp => by omega⟩
  | m + 1, hm => by
    have ih := crash_sec h K L hL hnd i hi m (by omega)
    have hl := crashB_len h K L hL m (by omega)
    have hlt : m < L.length := by omega
    have hx := hL _ (List.getElem_mem hlt)
    have hg : L.getD m 0 = L[m] := getD_lt L m 0 hlt
    have hw := h.was_len _ hx.1 hx.2
    have ht : L.take (m + 1) = L.take m ++ [L[m]] := List.take_succ_eq_append_getElem hlt
    constructor
    · intro hn
      rw [ht, List.mem_append, not_or] at hn
      have hne : (i : Int) ≠ L[m] := by simpa using hn.2
      unfold crashB
      split
      · exact ih.1 hn.1
      · rw [hg, sec_put_other hl (by omega) hw (by omega)]
        exact ih.1 hn.1
    · intro p hp hpe
      by_cases e : p = m
      · subst e
        have hnot : (i : Int) ∉ L.take p := by
          rw [← hpe, hg]
          intro hin
          obtain ⟨j, hj, e⟩ := List.getElem_of_mem hin
          rw [List.length_take] at hj
          rw [List.getElem_take] at e
          have := nodup_inj hnd e
          omega
        unfold crashB
        split
        · exact ih.1 hnot
        · rw [hpe, show ((i : Int)).toNat = i by omega]
          have hw' : (wasOf D (i : Int)).length = 64 := h.was_len _ (by omega) (by omega)
          rw [sec_put_same hl hi hw']
      · have hne : (i : Int) ≠ L[m] := by
          intro e2
          have hp' : p < L.length := by omega
          rw [getD_lt L p 0 hp', e2] at hpe
          have := nodup_inj hnd hpe
          omega
        unfold crashB
        split
        · exact ih.2 p (by omega) hpe
        · rw [hg, sec_put_other hl (by omega) hw (by omega)]
          exact ih.2 p (by omega) hpe

/-- A slice of bools that reads K. -/
structure KeepB (w : World) (Lim : Nat) (ka : Option Addr) (kl : Nat) (K : List Bool) : Prop where
  len : K.length = kl
  at_ : kl = 0 ∨ ∃ kb ko, ka = some ⟨kb, ko, none⟩ ∧ kb < Lim ∧ w.rangeAt kb ko (K.map Value.bool)
theorem KeepB.below {w w' : World} {Lim : Nat} {ka : Option Addr} {kl : Nat} {K : List Bool} (h : KeepB w Lim ka kl K) (hb : Below Lim w w') : KeepB w' Lim ka kl K := by
  refine ⟨h.len, ?_⟩
  rcases h.at_ with h0 | ⟨kb, ko, e, hl, hr⟩
  · exact Or.inl h0
  · exact Or.inr ⟨kb, ko, e, hl, fun j v hv => (hb.cell (p := ⟨kb, ko + j, none⟩) hl).trans (hr j v hv)⟩
theorem KeepB.cell {w : World} {Lim : Nat} {ka : Option Addr} {kl : Nat} {K : List Bool} (h : KeepB w Lim ka kl K) (p : Nat) (hp : p < kl) : ∃ kb ko, ka = some ⟨kb, ko, none⟩ ∧ kb < Lim ∧ w.cell? ⟨kb, ko + p, none⟩ = some (.bool (K.getD p false)) := by
  rcases h.at_ with h0 | ⟨kb, ko, e, hl, hr⟩
  · omega
  · have := h.len
    exact ⟨kb, ko, e, hl, hr p _ (by rw [List.getElem?_map, List.getElem?_eq_getElem (by omega)]; simp [List.getD, List.getElem?_eq_getElem (show p < K.length by omega)])⟩
theorem crash_l {w : World} {db nb mb n cap : Nat} {B : List UInt8} {k : Nat} {D : DataW Unit} {left : Int} {down : Bool} (h : DevAt w db nb mb n cap B k D left down) (hk : k ≤ 1000000) {Lim : Nat} {ka : Option Addr} {kl : Nat} {K : List Bool} (kc : Nat) (hK : KeepB w Lim ka kl K) :
    Calls Tryz.prog 83 #[.pointer (some ⟨db, 0, none⟩), .slice ka kl kc] w fun e w' => ∃ (L : List Int) (db' nb' mb' cap' : Nat), L.Perm (intKeys D) ∧ L.Pairwise (fun x y => x ≤ y) ∧ e = .returned (.pointer (some ⟨db', 0, none⟩)) ∧
      w.heap.size ≤ db' ∧ w.heap.size ≤ nb' ∧ w.heap.size ≤ mb' ∧ DevAt w' db' nb' mb' n cap' (crashB D K L B L.length) 0 (.map []) 0 false ∧ Below w.heap.size w w' := by
  rcases hK.at_ with h0 | ⟨kb, ko, rfl, _, hr⟩
  · subst h0
    have hK0 : K = [] := List.eq_nil_of_length_eq_zero hK.len
    subst hK0
    exact crash_none h hk ka kc
  · exact crash_keep h hk kb ko kl kc K hK.len hr
theorem loose_ints {w : World} {db nb mb n cap : Nat} {B : List UInt8} {k : Nat} {D : DataW Unit} {left : Int} {down : Bool} (h : DevAt w db nb mb n cap B k D left down) (hk : k ≤ 1000000) :
    Calls Tryz.prog 120 #[.pointer (some ⟨db, 0, none⟩)] w fun e w' => ∃ (L : List Int) (la : Option Addr) (lc : Nat), e = .returned (.slice la L.length lc) ∧ IntsAt w' w'.heap.size la L.length L ∧ L.length ≤ k ∧ L.Perm (intKeys D) ∧ L.Pairwise (fun x y => x ≤ y) ∧ Below w.heap.size w w' := by
  refine (loose_row h hk).mono ?_
  rintro e w' ⟨L, h1, h2, h3, h4, h5⟩
  have hn2 := h.n2
  have hfit : AllFit L := fun x hx => by have := h.keys x (h2.subset hx); omega
  rcases h5 with ⟨rfl, rfl⟩ | ⟨g, c, rfl, h6, h7, h8⟩
  · exact ⟨[], none, 0, rfl, ⟨rfl, hfit, Or.inl rfl⟩, h1, h2, h3, h4⟩
  · refine ⟨L, some ⟨g, 0, none⟩, c, rfl, ⟨rfl, hfit, Or.inr ⟨g, 0, rfl, ?_, h8⟩⟩, h1, h2, h3, h4⟩
    have h9 := h8 0 (encZ L[0]) (by simp [List.getElem?_eq_getElem h7])
    exact World.block_lt_of_cell? w' _ h9

/-- Which are loose, rising, of the first n. -/
def looseN (Lz : Nat → Bool) (n : Nat) : List Nat := (List.range n).filter Lz
def looseL (Lz : Nat → Bool) (n : Nat) : List Int := (looseN Lz n).map Int.ofNat
theorem looseN_succ (Lz : Nat → Bool) (n : Nat) : looseN Lz (n + 1) = if Lz n = true then looseN Lz n ++ [n] else looseN Lz n := by
  unfold looseN
  rw [List.range_succ, List.filter_append]
  cases h : Lz n <;> simp [h]
theorem looseN_len (Lz : Nat → Bool) (n : Nat) : (looseN Lz n).length ≤ n := by
  have := List.length_filter_le Lz (List.range n)
  rwa [List.length_range] at this
theorem looseN_at (Lz : Nat → Bool) (i : Nat) (hz : Lz i = true) : ∀ n, i < n → (looseN Lz n)[(looseN Lz i).length]? = some i
  | 0, h => by omega
  | n + 1, h => by
    rw [looseN_succ]
    by_cases e : i = n
    · subst e
      rw [if_pos hz, List.getElem?_append_right (Nat.le_refl _), Nat.sub_self]; rfl
    · have ih := looseN_at Lz i hz n (by omega)
      split
      · rw [List.getElem?_append_left (List.getElem?_eq_some_iff.1 ih).1]; exact ih
      · exact ih
theorem looseL_mem (Lz : Nat → Bool) (n : Nat) (x : Int) : x ∈ looseL Lz n ↔ 0 ≤ x ∧ x < n ∧ Lz x.toNat = true := by
  unfold looseL looseN
  simp only [List.mem_map, List.mem_filter, List.mem_range]
  constructor
  · rintro ⟨a, ⟨h1, h2⟩, rfl⟩
    exact ⟨by simp, by simpa using h1, by simpa using h2⟩
  · rintro ⟨h0, h1, h2⟩
    exact ⟨x.toNat, ⟨by omega, h2⟩, by simp; omega⟩
theorem looseL_rise (Lz : Nat → Bool) (n : Nat) : (looseL Lz n).Pairwise (fun x y => x < y) := by
  unfold looseL looseN
  refine List.pairwise_map.2 ?_
  refine (List.Pairwise.filter _ (List.pairwise_lt_range)).imp ?_
  intro a b h
  simpa using h

def upd {α : Type} (f : Nat → α) (i : Nat) (x : α) : Nat → α := fun j => if j = i then x else f j
def spendF (fused : Bool) (f : Int) : Int := if fused = true then f - 1 else f
/-- What the reference's crash leaves. -/
def crashN (Now Safe : Nat → List UInt8) (Lz : Nat → Bool) (K : List Bool) (i : Nat) : List UInt8 := if Lz i = true then (if K.getD (looseN Lz i).length false = true then Now i else Safe i) else Now i

/-- The document's device and the program's. -/
structure Sim (n : Nat) (B : List UInt8) (D : DataW Unit) (left : Int) (down : Bool) (Now Safe : Nat → List UInt8) (Lz : Nat → Bool) (fuse : Int) (fused : Bool) : Prop where
  now : ∀ i, i < n → Now i = sec B i
  lz : ∀ i : Nat, i < n → Lz i = has D (ik i)
  safe : ∀ i : Nat, i < n → Safe i = if has D (ik i) = true then wasOf D i else sec B i
  fu : (fused = false ∧ left = 0 ∧ down = false) ∨ (fused = true ∧ 0 < fuse ∧ left = fuse ∧ down = false) ∨ (fused = true ∧ fuse ≤ 0 ∧ down = true)

theorem Sim.isDown {n : Nat} {B : List UInt8} {D : DataW Unit} {left : Int} {down : Bool} {Now Safe : Nat → List UInt8} {Lz : Nat → Bool} {fuse : Int} {fused : Bool} (h : Sim n B D left down Now Safe Lz fuse fused) : down = (fused && decide (fuse ≤ 0)) := by
  rcases h.fu with ⟨rfl, _, rfl⟩ | ⟨rfl, h1, _, rfl⟩ | ⟨rfl, h1, rfl⟩
  · rfl
  · rw [decide_eq_false (by omega)]; rfl
  · rw [decide_eq_true h1]; rfl
theorem Sim.start (n : Nat) : Sim n (List.replicate (n * 64) 0) (.map []) 0 false (fun _ => zsec) (fun _ => zsec) (fun _ => false) 0 false :=
  ⟨fun i hi => (sec_zero n i hi).symm, fun _ _ => rfl, fun i hi => (sec_zero n i hi).symm, Or.inl ⟨rfl, rfl, rfl⟩⟩
theorem Sim.burn {left : Int} {down fused : Bool} {fuse : Int} (h : (fused = false ∧ left = 0 ∧ down = false) ∨ (fused = true ∧ 0 < fuse ∧ left = fuse ∧ down = false) ∨ (fused = true ∧ fuse ≤ 0 ∧ down = true)) (hd : down = false) :
    (fused = false ∧ burnL left = 0 ∧ burnD left false = false) ∨ (fused = true ∧ 0 < spendF fused fuse ∧ burnL left = spendF fused fuse ∧ burnD left false = false) ∨ (fused = true ∧ spendF fused fuse ≤ 0 ∧ burnD left false = true) := by
  rcases h with ⟨rfl, rfl, _⟩ | ⟨rfl, h1, rfl, _⟩ | ⟨_, _, h1⟩
  · exact Or.inl ⟨rfl, rfl, rfl⟩
  · have h0 : left ≠ 0 := by omega
    by_cases e : left = 1
    · subst e; exact Or.inr (Or.inr ⟨rfl, by decide, by decide⟩)
    · refine Or.inr (Or.inl ⟨rfl, ?_, ?_, ?_⟩)
      · unfold spendF; rw [if_pos rfl]; omega
      · unfold spendF burnL; rw [if_pos rfl, if_neg h0]
      · unfold burnD; rw [if_neg h0]; simp; omega
  · rw [hd] at h1; cases h1
theorem Sim.write {n : Nat} {B : List UInt8} {D D' : DataW Unit} {left : Int} {Now Safe : Nat → List UInt8} {Lz : Nat → Bool} {fuse : Int} {fused : Bool} (h : Sim n B D left false Now Safe Lz fuse fused) (hl : B.length = n * 64) (hD : IsMap D) (i : Nat) (hi : i < n) (s : List UInt8) (hs : s.length = 64)
    (hD' : (has D (ik i) = true ∧ D' = D) ∨ (has D (ik i) = false ∧ D' = D.put (ik i) (.lit (.string (sec B i))))) :
    Sim n (put B i s) D' (burnL left) (burnD left false) (upd Now i s) Safe (upd Lz i true) (spendF fused fuse) fused := by
  refine ⟨fun j hj => ?_, fun j hj => ?_, fun j hj => ?_, Sim.burn h.fu rfl⟩
  · unfold upd
    by_cases e : j = i
    · subst e; rw [if_pos rfl, sec_put_same hl hi hs]
    · rw [if_neg e, sec_put_other hl hi hs e]; exact h.now j hj
  · unfold upd
    rcases hD' with ⟨h1, rfl⟩ | ⟨h1, rfl⟩
    · by_cases e : j = i
      · subst e; rw [if_pos rfl, h1]
      · rw [if_neg e]; exact h.lz j hj
    · rw [has_put D hD]
      by_cases e : j = i
      · subst e; rw [if_pos rfl, if_pos rfl]
      · rw [if_neg e, if_neg (by omega)]; exact h.lz j hj
  · rw [h.safe j hj]
    rcases hD' with ⟨h1, rfl⟩ | ⟨h1, rfl⟩
    · by_cases e : j = i
      · subst e; rw [if_pos h1, if_pos h1]
      · rw [sec_put_other hl hi hs e]
    · rw [has_put D hD, wasOf_put D hD]
      by_cases e : j = i
      · subst e; simp [h1]
      · rw [if_neg (show ¬ (j : Int) = i by omega), if_neg (show ¬ (j : Int) = i by omega), sec_put_other hl hi hs e]
theorem Sim.flush {n : Nat} {B : List UInt8} {D : DataW Unit} {left : Int} {Now Safe : Nat → List UInt8} {Lz : Nat → Bool} {fuse : Int} {fused : Bool} (h : Sim n B D left false Now Safe Lz fuse fused) :
    Sim n B (.map []) (burnL left) (burnD left false) Now Now (fun _ => false) (spendF fused fuse) fused :=
  ⟨h.now, fun _ _ => rfl, h.now, Sim.burn h.fu rfl⟩
theorem Sim.fuse {n : Nat} {B : List UInt8} {D : DataW Unit} {left : Int} {down : Bool} {Now Safe : Nat → List UInt8} {Lz : Nat → Bool} {f : Int} {fused : Bool} (h : Sim n B D left down Now Safe Lz f fused) (m : Int) :
    Sim n B D (max m 0) (decide (m ≤ 0)) Now Safe Lz m true := by
  refine ⟨h.now, h.lz, h.safe, ?_⟩
  by_cases hm : m ≤ 0
  · exact Or.inr (Or.inr ⟨rfl, hm, decide_eq_true hm⟩)
  · exact Or.inr (Or.inl ⟨rfl, by omega, by omega, decide_eq_false hm⟩)
/-- Loose tells what the reference's list tells. -/
theorem Sim.looseEq {w : World} {db nb mb n cap : Nat} {B : List UInt8} {k : Nat} {D : DataW Unit} {left : Int} {down : Bool} {Now Safe : Nat → List UInt8} {Lz : Nat → Bool} {f : Int} {fused : Bool} (hd : DevAt w db nb mb n cap B k D left down) (h : Sim n B D left down Now Safe Lz f fused) {L : List Int} (hp : L.Perm (intKeys D)) (hs : L.Pairwise (fun x y => x ≤ y)) : L = looseL Lz n := by
  obtain ⟨hnd, hm⟩ := own_keys hd.was
  refine sorted_one hp ?_ hs ((looseL_rise Lz n).imp (fun h => by omega))
  refine (List.perm_ext_iff_of_nodup ((looseL_rise Lz n).imp (fun h => by omega)) hnd).2 (fun x => ?_)
  rw [looseL_mem, hm]
  constructor
  · rintro ⟨h0, h1, h2⟩
    rw [h.lz x.toNat (by omega)] at h2
    rwa [show ((x.toNat : Nat) : Int) = x by omega] at h2
  · intro hx
    have hk := hd.keys x ((hm x).2 hx)
    refine ⟨hk.1, hk.2, ?_⟩
    rw [h.lz x.toNat (by omega), show ((x.toNat : Nat) : Int) = x by omega]
    exact hx
theorem Sim.crash {w : World} {db nb mb n cap : Nat} {B : List UInt8} {k : Nat} {D : DataW Unit} {left : Int} {down : Bool} {Now Safe : Nat → List UInt8} {Lz : Nat → Bool} {f : Int} {fused : Bool} (hd : DevAt w db nb mb n cap B k D left down) (h : Sim n B D left down Now Safe Lz f fused) {L : List Int} (hp : L.Perm (intKeys D)) (hs : L.Pairwise (fun x y => x ≤ y)) (K : List Bool) :
    Sim n (crashB D K L B L.length) (.map []) 0 false (crashN Now Safe Lz K) (crashN Now Safe Lz K) (fun _ => false) 0 false := by
  have hL := h.looseEq hd hp hs
  have hb : ∀ x ∈ L, 0 ≤ x ∧ x < n := fun x hx => hd.keys x (hp.subset hx)
  have hnd : L.Nodup := by rw [hL]; exact (looseL_rise Lz n).imp (fun h => by omega)
  have hsec : ∀ i, i < n → crashN Now Safe Lz K i = sec (crashB D K L B L.length) i := by
    intro i hi
    have hc := crash_sec hd K L hb hnd i hi L.length (Nat.le_refl _)
    unfold crashN
    by_cases hz : Lz i = true
    · rw [if_pos hz]
      have ha := looseN_at Lz i hz n hi
      have hlen := (List.getElem?_eq_some_iff.1 ha).1
      have hpl : (looseN Lz i).length < L.length := by rw [hL]; unfold looseL; rw [List.length_map]; exact hlen
      have hg : L.getD (looseN Lz i).length 0 = (i : Int) := by
        rw [hL]; unfold looseL
        simp [List.getD, ha]
      rw [hc.2 _ hpl hg, h.now i hi, h.safe i hi, ← h.lz i hi, if_pos hz]
    · have hn : (i : Int) ∉ L.take L.length := by
        rw [List.take_length, hL, looseL_mem]
        rintro ⟨_, _, h2⟩
        exact hz (by simpa using h2)
      rw [if_neg hz, hc.1 hn, h.now i hi]
  exact ⟨hsec, fun _ _ => rfl, hsec, Or.inl ⟨rfl, rfl, rfl⟩⟩
end Go.Proofs.YteaacodloabdcaaGreatDoor
