import Derived.Test.YtlmdeafmlommeaaGreatDoorLgA
namespace Go.Proofs.YtlmdeafmlommeaaGreatDoor
open Go.RowKit Go.Maps

/-- A make touches the slots alone. -/
theorem make_low {n : Nat} (hn : 2 ≤ n) {B : List UInt8} (hB : B.length = n * 64) {A : List Int} (hl : A.length ≤ 4) (hf : AllFit A) {left left' : Int} {down down' : Bool} {code : Int} {B' : List UInt8} {D' : DataW Unit} (h : MakeO B (.map []) left down A code B' D' left' down') : Alike lowP B B' ∧ AlikeW lowP B D' := by
  obtain ⟨code1, B1, D1, left1, down1, h1, h2⟩ := h
  have l1 := save_low hn hB hl hf h1
  rcases h2 with ⟨_, rfl, rfl, rfl, _⟩ | ⟨e, h2⟩
  · exact l1
  · rcases save_lasts hn hB rfl rfl hl hf h1 with ⟨_, hD1, _⟩ | ⟨e9, _⟩
    · subst hD1
      have l2 := save_low hn (l1.1.1.trans hB) hl hf h2
      exact ⟨l1.1.trans l2.1, fun x hx k hk hp => (l2.2 x hx k hk hp).trans (l1.1.2 _ hp)⟩
    · omega
/-- A Make over a log, that may be cut off. -/
theorem wmake_cut {w : World} {db nb mb n cap : Nat} {B : List UInt8} {k : Nat} {left : Int} {down : Bool} (hd : DevAt w db nb mb n cap B k (.map []) left down) (hk : k ≤ 1000) {a : Nat} {R : List (List UInt8)} {x y : Int} (hlog : LogOn n B a R x y) :
    Calls Tryz.prog 16 #[.pointer (some ⟨db, 0, none⟩)] w fun e w' => ∃ code pv mb' k' B' D' left' down', e = .returned (.tuple #[.pointer pv, .int .i64 code]) ∧ DevAt w' db nb mb' n cap B' k' D' left' down' ∧ k' ≤ k + 2 ∧ (mb' = mb ∨ w.heap.size ≤ mb') ∧ Keeps (fun x => x = db ∨ x = nb ∨ x = mb) w w' ∧ (code = 0 ∧ (∃ lb sb, pv = some ⟨lb, 0, none⟩ ∧ w.heap.size ≤ lb ∧ LgAt w' lb db n sb false 0 0 0 0) ∧ LogOn n B' 0 [] 0 0 ∨ code = 9 ∧ pv = none) ∧ ∀ (K : List Bool) (L : List Int), L.Perm (intKeys D') → LogOn n (crashB D' K L B' L.length) 0 [] 0 0 ∨ code = 9 ∧ LogOn n (crashB D' K L B' L.length) a R x y := by
  have hn1 := hd.n1
  have hBl := hd.len
  refine (wmake_at hd hk).mono ?_
  rintro e w7 ⟨code7, pv7, mb7, k7, B7, D7, left7, down7, rfl, hd7, hk7, hm7, hK7, hM7, hn7, hpv7⟩
  have hlow := make_low (by omega) hBl (by simp) fit0 hM7
  have hlasts := make_lasts (by omega) hBl rfl hlog.tl (by simp) fit0 hM7
  refine ⟨code7, pv7, mb7, k7, B7, D7, left7, down7, rfl, hd7, hk7, hm7, hK7, ?_, ?_⟩
  · rcases hlasts with ⟨rfl, _, hl, ht⟩ | ⟨rfl, _⟩
    · obtain ⟨lb, sb, rfl, v1, v2, v3, hL7, _⟩ := hpv7 rfl
      exact Or.inl ⟨rfl, ⟨lb, sb, rfl, v1, hL7⟩, logon_new hn1 hl ht⟩
    · exact Or.inr ⟨rfl, hn7 (by decide)⟩
  · intro K L hp
    rcases hlasts with ⟨rfl, rfl, hl, ht⟩ | ⟨rfl, x', y', hL, hx', hy'⟩
    · rw [crash_nothing hp]; exact Or.inl (logon_new hn1 hl ht)
    · have hA := Alike.crash hd7 hlow.1 hlow.2 K hp
      have hc := crash_lasts (by omega) hL hp (K := K)
      have hor : told (crashB D7 K L B7 L.length) = some [(a : Int), ((encR R).length : Int), x, y] ∨ told (crashB D7 K L B7 L.length) = some [0, 0, 0, 0] := by
        rcases hc.1 with e | e
        · rcases hx' with h | h
          · exact Or.inl (e.trans h)
          · exact Or.inr (e.trans h)
        · rcases hy' with h | h
          · exact Or.inl (e.trans h)
          · exact Or.inr (e.trans h)
      rcases hor with h | h
      · exact Or.inr ⟨rfl, hlog.low hA h⟩
      · exact Or.inl (logon_new hn1 hc.2 h)
theorem five_below {base : Nat} {w w' : World} {db nb mb n cap k lb sb : Nat} {B : List UInt8} (h : Seat base w db nb mb n cap k lb sb B) (hk : Keeps (five db nb mb sb lb) w w') (hb : base ≤ w.heap.size) : Below base w w' := by
  have := h.low
  exact hk.below hb (fun i e => by unfold five at e; omega)
end Go.Proofs.YtlmdeafmlommeaaGreatDoor
