import Derived.Test.YtmdjjnjhjojimabDoorAgainA
namespace Go.Proofs.YtmdjjnjhjojimabDoor
open Go.RowKit Go.Maps

abbrev ik (x : Int) : Lit := .int .i64 x
theorem ik_key (x : Int) : WideAt.IsKeyLit (ik x) := by simp [WideAt.IsKeyLit]
theorem nodup_inj {L : List Int} (h : L.Nodup) {i j : Nat} {hi : i < L.length} {hj : j < L.length} (e : L[i] = L[j]) : i = j := by
  have hp := List.pairwise_iff_getElem.1 h
  rcases Nat.lt_trichotomy i j with hlt | rfl | hlt
  · exact absurd e (hp i j hi hj hlt)
  · rfl
  · exact absurd e.symm (hp j i hj hi hlt)
theorem ik_ne {x y : Int} (h : x ≠ y) : ik x ≠ ik y := fun e => by cases e; exact h rfl
/-- A map's keys, as numbers. -/
theorem own_keys {R : Value → Option (DataW Unit × List MemPlace)} {w : World} {b n : Nat} {D : DataW Unit} (h : w.ownsMap Tryd.prog 3 R b n D) : (intKeys D).Nodup ∧ ∀ x, x ∈ intKeys D ↔ has D (ik x) = true := by
  obtain ⟨es, hD, hpw, _⟩ := h.entries law3
  obtain ⟨es', hD', hko⟩ := h.keysOf
  obtain rfl : es = es' := by rw [hD] at hD'; simpa using hD'
  subst hD
  have hk : ∀ p ∈ es, ∃ x, p.1 = .int .i64 x := fun p hp => by obtain ⟨v, hv⟩ := hko p hp; obtain ⟨x, _, hx, _⟩ := Maps.keyOf_i64 Tryd.underlying3 hv; exact ⟨x, hx⟩
  constructor
  · unfold intKeys
    refine List.pairwise_map.2 (hpw.imp_of_mem fun {p q} hp' hq' hne e => hne ?_)
    obtain ⟨a, ha⟩ := hk p hp'
    obtain ⟨b, hb⟩ := hk q hq'
    rw [ha, hb] at e ⊢
    exact congrArg _ e
  · intro x
    rw [has_eq, List.any_eq_true]
    unfold intKeys
    rw [List.mem_map]
    constructor
    · rintro ⟨p, hp', rfl⟩
      obtain ⟨a, ha⟩ := hk p hp'
      exact ⟨p, hp', by rw [ha]; simp [Lit.sameKey, Go.intOf]⟩
    · rintro ⟨p, hp', hs⟩
      obtain ⟨a, ha⟩ := hk p hp'
      rw [ha] at hs
      exact ⟨p, hp', by rw [ha]; simpa [Lit.sameKey, Go.intOf] using hs⟩
theorem own_tidy {R : Value → Option (DataW Unit × List MemPlace)} {w : World} {b n : Nat} {D : DataW Unit} (h : w.ownsMap Tryd.prog 3 R b n D) : Tidy D := by
  obtain ⟨es, hD, hpw, _⟩ := h.entries law3
  exact ⟨es, hD, hpw⟩
theorem sorted_one {L L' M : List Int} (h : L.Perm M) (h' : L'.Perm M) (s : L.Pairwise (fun x y => x ≤ y)) (s' : L'.Pairwise (fun x y => x ≤ y)) : L = L' :=
  List.Perm.eq_of_pairwise (le := fun a b => a ≤ b) (fun _ _ _ _ h1 h2 => Int.le_antisymm h1 h2) s s' (h.trans h'.symm)

/-- What a crash leaves of a sector. -/
theorem crash_sec {w : World} {db nb mb cap : Nat} {B : List UInt8} {k : Nat} {D : DataW Unit} {left : Int} {down : Bool} (h : DevAt w db nb mb 64 cap B k D left down) (K : List Bool) (L : List Int) (hL : ∀ x ∈ L, 0 ≤ x ∧ x < 64) (hnd : L.Nodup) (i : Nat) (hi : i < 64) :
    ∀ m, m ≤ L.length → ((i : Int) ∉ L.take m → sec (crashB D K L B m) i = sec B i) ∧ (∀ p, p < m → L.getD p 0 = (i : Int) → sec (crashB D K L B m) i = if K.getD p false = true then sec B i else wasOf D i)
  | 0, _ => ⟨fun _ => rfl, fun p hp => by omega⟩
  | m + 1, hm => by
    have ih := crash_sec h K L hL hnd i hi m (by omega)
    have hl := crashB_len h K L hL m (by omega)
    have hlt : m < L.length := by omega
    have hx := hL _ (List.getElem_mem hlt)
    have hg : L.getD m 0 = L[m] := getD_lt L m 0 hlt
    have hw := h.was_len _ hx.1 hx.2
    have ht : L.take (m + 1) = L.take m ++ [L[m]] := List.take_succ_eq_append_getElem hlt
    constructor
    · intro hn
      rw [ht, List.mem_append, not_or] at hn
      have hne : (i : Int) ≠ L[m] := by simpa using hn.2
      unfold crashB
      split
      · exact ih.1 hn.1
      · rw [hg, sec_put_other hl (by omega) hw (by omega)]
        exact ih.1 hn.1
    · intro p hp hpe
      by_cases e : p = m
      · subst e
        have hnot : (i : Int) ∉ L.take p := by
          rw [← hpe, hg]
          intro hin
          obtain ⟨j, hj, e⟩ := List.getElem_of_mem hin
          rw [List.length_take] at hj
          rw [List.getElem_take] at e
          have := nodup_inj hnd e
          omega
        unfold crashB
        split
        · exact ih.1 hnot
        · rw [hpe, show ((i : Int)).toNat = i by omega]
          have hw' : (wasOf D (i : Int)).length = 64 := h.was_len _ (by omega) (by omega)
          rw [sec_put_same hl hi hw']
      · have hne : (i : Int) ≠ L[m] := by
          intro e2
          have hp' : p < L.length := by omega
          rw [getD_lt L p 0 hp', e2] at hpe
          have := nodup_inj hnd hpe
          omega
        unfold crashB
        split
        · exact ih.2 p (by omega) hpe
        · rw [hg, sec_put_other hl (by omega) hw (by omega)]
          exact ih.2 p (by omega) hpe

def rep (v : Nat) : List UInt8 := List.replicate 64 (UInt8.ofNat v)
theorem rep_len (v : Nat) : (rep v).length = 64 := by simp [rep]
def bUp (t i : Nat) : Nat := if i % 3 = 0 ∧ i < t then i + 1 else 0
/-- What a map of bytes says of a key. -/
def byteOf (D : DataW Unit) (x : Int) : Nat := match D.atKey (ik x) (.lit (.int .u8 0)) with | .lit (.int .u8 c) => c.toNat | _ => 0
theorem byteOf_put (D : DataW Unit) (hD : IsMap D) (i x : Int) (v : Nat) : byteOf (D.put (ik i) (.lit (.int .u8 (v : Int)))) x = if x = i then v else byteOf D x := by
  unfold byteOf
  by_cases h : x = i
  · subst h
    rw [if_pos rfl, atKey_put_same hD (ik_key x)]
    simp
  · rw [if_neg h, atKey_put_other (ik_ne h)]

/-- Behind writes from t = 0 on, in steps of three. -/
def BInv (B : List UInt8) (Db : DataW Unit) (t : Nat) : Prop := ∀ i, i < 64 → sec B i = rep (bUp t i) ∧ byteOf Db i = bUp t i
theorem bUp_zero (i : Nat) : bUp 0 i = 0 := by unfold bUp; rw [if_neg (by omega)]
theorem rep_zero : rep 0 = zsec := rfl
theorem BInv.start : BInv (List.replicate (64 * 64) 0) (.map []) 0 := fun i hi => ⟨by rw [sec_zero 64 i hi, bUp_zero, rep_zero], by rw [bUp_zero]; rfl⟩
theorem BInv.step {B : List UInt8} {Db : DataW Unit} {t : Nat} (h : BInv B Db t) (hD : IsMap Db) (hl : B.length = 64 * 64) (ht : t < 64) (h3 : t % 3 = 0) : BInv (put B t (rep (t + 1))) (Db.put (ik t) (.lit (.int .u8 ((t + 1 : Nat) : Int)))) (t + 3) := by
  intro i hi
  rw [byteOf_put Db hD]
  by_cases e : i = t
  · subst e
    rw [sec_put_same hl hi (rep_len _), if_pos rfl]
    have : bUp (i + 3) i = i + 1 := by unfold bUp; rw [if_pos ⟨h3, by omega⟩]
    rw [this]
    exact ⟨rfl, rfl⟩
  · rw [sec_put_other hl ht (rep_len _) e, if_neg (by omega)]
    have : bUp (t + 3) i = bUp t i := by
      unfold bUp
      by_cases h1 : i % 3 = 0 ∧ i < t
      · rw [if_pos h1, if_pos ⟨h1.1, by omega⟩]
      · rw [if_neg h1, if_neg (by omega)]
    rw [this]
    exact h i hi

/-- Behind writes since the last flush: D is the device's map, Dl what was written last. -/
structure LInv (B : List UInt8) (D Dl : DataW Unit) : Prop where
  hh : ∀ x : Int, has D (ik x) = has Dl (ik x)
  sz : Maps.size D = Maps.size Dl
  yes : ∀ i, i < 64 → has Dl (ik (i : Nat)) = true → sec B i = rep (byteOf Dl i) ∧ wasOf D i = rep (bUp 66 i)
  no : ∀ i, i < 64 → has Dl (ik (i : Nat)) = false → sec B i = rep (bUp 66 i)
theorem LInv.start {B : List UInt8} {Db : DataW Unit} (h : BInv B Db 66) : LInv B (.map []) (.map []) :=
  ⟨fun _ => rfl, rfl, fun i _ e => (by cases e), fun i hi _ => (h i hi).1⟩
theorem has_put (D : DataW Unit) (hD : IsMap D) (i x : Int) (d : DataW Unit) : has (D.put (ik i) d) (ik x) = if x = i then true else has D (ik x) := by
  by_cases h : x = i
  · subst h; rw [if_pos rfl, has_put_same hD (ik_key x)]
  · rw [if_neg h, has_put_other (ik_ne h)]
theorem LInv.loose {B : List UInt8} {D Dl : DataW Unit} (h : LInv B D Dl) (tL : Tidy Dl) (hl : B.length = 64 * 64) (q v : Nat) (hq : q < 64) (hh : has D (ik q) = true) : LInv (put B q (rep v)) D (Dl.put (ik q) (.lit (.int .u8 (v : Int)))) := by
  have hL : has Dl (ik q) = true := by rw [← h.hh]; exact hh
  refine ⟨fun x => ?_, ?_, fun i hi hi2 => ?_, fun i hi hi2 => ?_⟩
  · rw [has_put Dl tL.isMap, h.hh]
    split
    · rename_i e; subst e; exact hL
    · rfl
  · rw [size_put tL, if_pos hL]; exact h.sz
  · rw [has_put Dl tL.isMap] at hi2
    rw [byteOf_put Dl tL.isMap]
    by_cases e : i = q
    · subst e
      rw [sec_put_same hl hi (rep_len _), if_pos rfl]
      exact ⟨rfl, (h.yes i hi hL).2⟩
    · rw [if_neg (by omega)] at hi2
      rw [sec_put_other hl hq (rep_len _) e, if_neg (by omega)]
      exact h.yes i hi hi2
  · rw [has_put Dl tL.isMap] at hi2
    by_cases e : i = q
    · subst e; rw [if_pos rfl] at hi2; cases hi2
    · rw [if_neg (by omega)] at hi2
      rw [sec_put_other hl hq (rep_len _) e]
      exact h.no i hi hi2
theorem LInv.fresh {B : List UInt8} {D Dl : DataW Unit} (h : LInv B D Dl) (tD : Tidy D) (tL : Tidy Dl) (hl : B.length = 64 * 64) (q v : Nat) (hq : q < 64) (hh : has D (ik q) = false) :
    LInv (put B q (rep v)) (D.put (ik q) (.lit (.string (sec B q)))) (Dl.put (ik q) (.lit (.int .u8 (v : Int)))) := by
  have hL : has Dl (ik q) = false := by rw [← h.hh]; exact hh
  refine ⟨fun x => ?_, ?_, fun i hi hi2 => ?_, fun i hi hi2 => ?_⟩
  · rw [has_put Dl tL.isMap, has_put D tD.isMap, h.hh]
  · rw [size_put tL, size_put tD, hL, hh, h.sz]
  · rw [has_put Dl tL.isMap] at hi2
    rw [byteOf_put Dl tL.isMap, wasOf_put D tD.isMap]
    by_cases e : i = q
    · subst e
      rw [sec_put_same hl hi (rep_len _), if_pos rfl, if_pos rfl]
      exact ⟨rfl, h.no i hi hL⟩
    · rw [if_neg (by omega)] at hi2
      rw [sec_put_other hl hq (rep_len _) e, if_neg (by omega), if_neg (by omega)]
      exact h.yes i hi hi2
  · rw [has_put Dl tL.isMap] at hi2
    by_cases e : i = q
    · subst e; rw [if_pos rfl] at hi2; cases hi2
    · rw [if_neg (by omega)] at hi2
      rw [sec_put_other hl hq (rep_len _) e]
      exact h.no i hi hi2

/-- Where each of L stands, of the first j. -/
structure PInv (L : List Int) (Dp : DataW Unit) (j : Nat) : Prop where
  hh : ∀ x : Int, has Dp (ik x) = true ↔ x ∈ L.take j
  at_ : ∀ p, p < j → Dp.atKey (ik (L.getD p 0)) (.lit (.int .i64 0)) = .lit (.int .i64 (p : Nat))
theorem PInv.start (L : List Int) : PInv L (.map []) 0 := ⟨fun x => by simp [has], fun p hp => by omega⟩
theorem PInv.step {L : List Int} {Dp : DataW Unit} {j : Nat} (h : PInv L Dp j) (hD : IsMap Dp) (hnd : L.Nodup) (hj : j < L.length) : PInv L (Dp.put (ik (L.getD j 0)) (.lit (.int .i64 (j : Nat)))) (j + 1) := by
  have hg : L.getD j 0 = L[j] := getD_lt L j 0 hj
  refine ⟨fun x => ?_, fun p hp => ?_⟩
  · rw [has_put Dp hD, List.take_succ_eq_append_getElem hj, List.mem_append, ← h.hh x, hg]
    by_cases e : x = L[j]
    · simp [e]
    · simp [e]
  · by_cases e : p = j
    · subst e; rw [atKey_put_same hD (ik_key _)]
    · have hne : L.getD p 0 ≠ L.getD j 0 := by
        rw [hg, getD_lt L p 0 (by omega)]
        intro e2
        have := nodup_inj hnd e2
        omega
      rw [atKey_put_other (ik_ne hne)]
      exact h.at_ p (by omega)
end Go.Proofs.YtmdjjnjhjojimabDoor
