import Derived.Test.YtlmdeafmlommeaaGreatDoorSnG
namespace Go.Proofs.YtlmdeafmlommeaaGreatDoor
open Go.RowKit Go.Maps

/-- The text that a log tells of. -/
def TxtOn (n : Nat) (C : List UInt8) (x y : Int) (s : List UInt8) : Prop := (x = 0 ∧ s = []) ∨ ((x = 1 ∨ x = 2) ∧ y = (s.length : Int) ∧ s.length ≤ n / 4 * 64 ∧ cutB C (areaAt n x) s.length = s)
theorem cutB_beside {Q : Nat → Prop} {B B' : List UInt8} (hA : Alike Q B B') {a l : Nat} (hq : ∀ k, k < l → ¬ Q (64 * a + k)) : cutB B' a l = cutB B a l := by
  have hl : (cutB B' a l).length = (cutB B a l).length := by unfold cutB; rw [List.length_take, List.length_drop, List.length_take, List.length_drop, hA.1]
  refine list_ext_getD hl (fun k hk => ?_)
  have hkl : k < l := by unfold cutB at hk; rw [List.length_take] at hk; omega
  have e : ∀ X : List UInt8, (cutB X a l).getD k 0 = X.getD (64 * a + k) 0 := fun X => by
    unfold cutB
    simp only [List.getD, List.getElem?_take, List.getElem?_drop, if_pos hkl]
  rw [e, e]
  exact hA.2 _ (hq k hkl)
theorem TxtOn.beside {Q : Nat → Prop} {n : Nat} {B B' : List UInt8} {x y : Int} {s : List UInt8} (h : TxtOn n B x y s) (hA : Alike Q B B') (hq : (x = 1 ∨ x = 2) → s.length ≤ n / 4 * 64 → ∀ k, k < s.length → ¬ Q (64 * areaAt n x + k)) : TxtOn n B' x y s := by
  rcases h with h | ⟨h1, h2, h3, h4⟩
  · exact Or.inl h
  · exact Or.inr ⟨h1, h2, h3, (cutB_beside hA (hq h1 h3)).trans h4⟩
theorem other_12 (x : Int) : otherA x = 1 ∨ otherA x = 2 := by
  unfold otherA
  split <;> omega
theorem areas_apart {n : Nat} {x : Int} {c l : Nat} (hx : x = 1 ∨ x = 2) (hl : l ≤ n / 4 * 64) (hc : c ≤ n / 4) (k : Nat) (hk : k < l) : ¬ areaP (areaAt n (otherA x)) c (64 * areaAt n x + k) := by
  rintro ⟨h1, h2⟩
  rcases hx with rfl | rfl
  · have e1 : areaAt n (otherA 1) = n / 2 + n / 4 := rfl
    have e2 : areaAt n 1 = n / 2 := rfl
    rw [e1, e2] at h1
    omega
  · have e1 : areaAt n (otherA 2) = n / 2 := rfl
    have e2 : areaAt n 2 = n / 2 + n / 4 := rfl
    rw [e1, e2] at h2
    omega
/-- What lasts of a Put, wherever it is cut off. -/
theorem put_lasts {n : Nat} (hn : 64 ≤ n) (hn2 : n ≤ 4096) {B : List UInt8} {a : Nat} {R : List (List UInt8)} {x y : Int} (h : LogOn n B a R x y) {s0 : List UInt8} (ht : TxtOn n B x y s0) {s : List UInt8} (hs : s.length ≤ n / 4 * 64) {left' : Int} {down' : Bool} {code : Int} {B' : List UInt8} {D' : DataW Unit}
    (hO : (code = 9 ∧ ∃ d, SnW B D' (areaAt n (otherA x)) s d B') ∨ (∃ B1 left1 down1, SnW B (.map []) (areaAt n (otherA x)) s s.length B1 ∧ SaveO B1 (.map []) left1 down1 [(((a + (encR R).length) % ringN n : Nat) : Int), 0, otherA x, (s.length : Int)] code B' D' left' down')) :
    (code = 0 ∨ code = 9) ∧ ∀ {w : World} {db nb mb cap k : Nat} (_ : DevAt w db nb mb n cap B' k D' left' down') (K : List Bool) {L : List Int} (_ : L.Perm (intKeys D')), (∃ q, LogOn n (crashB D' K L B' L.length) q [] (otherA x) (s.length : Int) ∧ TxtOn n (crashB D' K L B' L.length) (otherA x) (s.length : Int) s) ∨ (code = 9 ∧ LogOn n (crashB D' K L B' L.length) a R x y ∧ TxtOn n (crashB D' K L B' L.length) x y s0) := by
  have hA : n / 2 ≤ areaAt n (otherA x) := by unfold areaAt; omega
  have hA0 : n / 2 ≤ areaAt n x := by unfold areaAt; omega
  have hc : secsN s.length ≤ n / 4 := by unfold secsN; omega
  have hfit := areaAt_fit (n := n) (x := otherA x) hs
  rcases hO with ⟨rfl, d, hW⟩ | ⟨B1, left1, down1, hW, hS⟩
  · refine ⟨Or.inr rfl, fun hd K L hp => Or.inr ?_⟩
    have hA' := Alike.crash hd hW.al hW.aw K hp
    exact ⟨rfl, h.beside hn hA hA', ht.beside hA' (fun hx hl k hk => areas_apart hx hl hc k hk)⟩
  · have h1 := h.beside hn hA hW.al
    have t1 := ht.beside hW.al (fun hx hl k hk => areas_apart hx hl hc k hk)
    have hof : AllFit [otherA x, (s.length : Int)] := fun v hv => by
      simp only [List.mem_cons, List.not_mem_nil, or_false] at hv
      rcases hv with rfl | rfl
      · have := other_12 x; omega
      · omega
    have hq : (a + (encR R).length) % ringN n < ringN n := Nat.mod_lt _ (by have := h.al; omega)
    have hf : AllFit [(((a + (encR R).length) % ringN n : Nat) : Int), 0, otherA x, (s.length : Int)] := fit4 (z := 0) hn2 hq (by omega) hof
    have hlow := save_low (by omega) h1.len (by simp) hf hS
    have hnew : ∀ {C : List UInt8} {q : Nat}, Alike lowP B1 C → LogOn n C q [] (otherA x) (s.length : Int) → (∃ q, LogOn n C q [] (otherA x) (s.length : Int) ∧ TxtOn n C (otherA x) (s.length : Int) s) := fun {C} {q} hC hl => ⟨q, hl, Or.inr ⟨other_12 x, rfl, hs, snap_text hW hC hl.len (by omega) hfit⟩⟩
    rcases reset_lasts hn hn2 h1 hof hS with ⟨rfl, rfl, hl⟩ | ⟨rfl, _, hC⟩
    · refine ⟨Or.inl rfl, fun hd K L hp => Or.inl ?_⟩
      rw [crash_nothing hp]
      exact hnew hlow.1 hl
    · refine ⟨Or.inr rfl, fun hd K L hp => ?_⟩
      have hA2 := Alike.crash hd hlow.1 hlow.2 K hp
      rcases hC hd K hp with q | q
      · exact Or.inr ⟨rfl, q, t1.beside hA2 (fun _ _ k _ e => by unfold lowP at e; omega)⟩
      · exact Or.inl (hnew hA2 q)
/-- A Put that may be cut off. -/
theorem put_cut {w : World} {lb db nb mb n cap sb : Nat} {B : List UInt8} {k : Nat} {left : Int} {down : Bool} {a' z' x' y' : Int} (h : LgAt w lb db n sb false a' z' x' y') (hd : DevAt w db nb mb n cap B k (.map []) left down) (hS : SlAt w sb db false) (hne : sb ≠ db ∧ sb ≠ nb ∧ sb ≠ mb) (hlne : lb ≠ db ∧ lb ≠ nb ∧ lb ≠ mb ∧ lb ≠ sb) (hk : k ≤ 1000) {a : Nat} {R : List (List UInt8)} {x y : Int} (hlog : LogOn n B a R x y) {s0 : List UInt8} (ht : TxtOn n B x y s0) (g bc : Nat) (s : List UInt8) (m : Nat) (hm : s.length = m) (hs : m ≤ n / 4 * 64) (hbc : m ≤ bc) (hB : BlkAt w g s) (hg : ¬ five db nb mb sb lb g) :
    Calls Tryz.prog 28 #[.pointer (some ⟨db, 0, none⟩), .pointer (some ⟨lb, 0, none⟩), .slice (some ⟨g, 0, none⟩) m bc] w fun e w' => ∃ code mb' k' B' D' left' down', e = .returned (.int .i64 code) ∧ DevAt w' db nb mb' n cap B' k' D' left' down' ∧ k' ≤ k + m + 1 ∧ Keeps (five db nb mb sb lb) w w' ∧ (code = 0 ∨ code = 9) ∧ ∀ (K : List Bool) (L : List Int), L.Perm (intKeys D') → (∃ q, LogOn n (crashB D' K L B' L.length) q [] (otherA x) (m : Int) ∧ TxtOn n (crashB D' K L B' L.length) (otherA x) (m : Int) s) ∨ (code = 9 ∧ LogOn n (crashB D' K L B' L.length) a R x y ∧ TxtOn n (crashB D' K L B' L.length) x y s0) := by
  subst hm
  have hn1 := hd.n1
  have hn2 := hd.n2
  refine (sput_at h hd hS hne hlne hk a (encR R).length x y hlog.tl hlog.al hlog.sz (some ⟨g, 0, none⟩) bc s hs hbc (fun _ => ⟨g, 0, rfl, hB.lt, ?_, hB.range⟩)).mono ?_
  · unfold five at hg; omega
  rintro e w8 ⟨code8, mb8, k8, B8, D8, left8, down8, rfl, hd8, hk8, _, _, hK8, hSp⟩
  have hpl := put_lasts (left' := left8) (down' := down8) hn1 hn2 hlog ht hs (code := code8) (B' := B8) (D' := D8) (by
    rcases hSp with ⟨e, _, _, hW, _⟩ | ⟨B1, l1, d1, hW, _, hSv, _⟩
    · exact Or.inl ⟨e, hW⟩
    · exact Or.inr ⟨B1, l1, d1, hW, hSv⟩)
  exact ⟨code8, mb8, k8, B8, D8, left8, down8, rfl, hd8, hk8, hK8, hpl.1, fun K L hp => hpl.2 hd8 K hp⟩
/-- The text, got. -/
theorem get_txt {w : World} {lb db nb mb n cap sb : Nat} {B : List UInt8} {k : Nat} {D : DataW Unit} {left : Int} {down : Bool} {a' z' x' y' : Int} (h : LgAt w lb db n sb false a' z' x' y') (hd : DevAt w db nb mb n cap B k D left down) {a : Nat} {R : List (List UInt8)} {x y : Int} (hlog : LogOn n B a R x y) {s : List UInt8} (ht : TxtOn n B x y s) : Calls Tryz.prog 27 #[.pointer (some ⟨db, 0, none⟩), .pointer (some ⟨lb, 0, none⟩)] w fun e w' => ∃ p c, e = .returned (.tuple #[.slice p s.length c, .int .i64 0]) ∧ SlB w' (.slice p s.length c) s ∧ Below w.heap.size w w' := by
  rcases ht with ⟨rfl, rfl⟩ | ⟨h1, rfl, h3, h4⟩
  · refine (sget_none h hd a (encR R).length y hlog.tl hlog.al hlog.sz).mono ?_
    rintro e w' ⟨rfl, hb⟩
    exact ⟨none, 0, rfl, ⟨none, 0, rfl, fun e => absurd rfl e⟩, hb⟩
  · refine (sget_log_at h hd hlog h1 h3 h4).mono ?_
    rintro e w' ⟨v, rfl, ⟨p, c, rfl, hp⟩, hb⟩
    exact ⟨p, c, rfl, ⟨p, c, rfl, hp⟩, hb⟩
/-- A text of the law's own. -/
def WasU (w : World) (P : Nat → Prop) (v : Value) (s : List UInt8) : Prop := ∃ p c, v = .slice p s.length c ∧ (s ≠ [] → ∃ g, p = some ⟨g, 0, none⟩ ∧ g < w.heap.size ∧ ¬ P g ∧ w.rangeAt g 0 (bytesV s))
theorem WasU.toSlB {w : World} {P : Nat → Prop} {v : Value} {s : List UInt8} (h : WasU w P v s) : SlB w v s := by
  obtain ⟨p, c, rfl, hp⟩ := h
  refine ⟨p, c, rfl, fun hs => ?_⟩
  obtain ⟨g, rfl, _, _, hr⟩ := hp hs
  exact ⟨g, 0, rfl, hr⟩
theorem WasU.keep {S P P' : Nat → Prop} {w w' : World} {v : Value} {s : List UInt8} (h : WasU w P v s) (hk : Keeps S w w') (hS : ∀ i, i < w.heap.size → S i → P i) (hP : ∀ i, i < w.heap.size → P' i → P i) : WasU w' P' v s := by
  obtain ⟨p, c, rfl, hp⟩ := h
  refine ⟨p, c, rfl, fun hs => ?_⟩
  obtain ⟨g, rfl, hl, hg, hr⟩ := hp hs
  exact ⟨g, rfl, Nat.lt_of_lt_of_le hl hk.size, fun e => hg (hP g hl e), fun j v hv => (hk.cell (p := ⟨g, 0 + j, none⟩) hl (fun e => hg (hS g hl e))).trans (hr j v hv)⟩
end Go.Proofs.YtlmdeafmlommeaaGreatDoor
