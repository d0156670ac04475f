import Derived.Test.YtlmdeafmlommeaaGreatDoorTxA
import Derived.Test.YtlmdeafmlommeaaGreatDoorRcA
import Derived.Test.YtlmdeafmlommeaaGreatDoorSnF
import Derived.Deep.DeepCutAuto
import Derived.Laws.AppendOwnNone
import Derived.Maps.AppendAt
namespace Go.Proofs.YtlmdeafmlommeaaGreatDoor
open Go.RowKit Go.Maps

/-- A block that holds no row of cells. -/
def NoRow (w : World) (mb : Nat) : Prop := ∀ (cur : Array Value) (T : TypeId), w.heap[mb]? ≠ some (.cells cur T)
theorem DevAt.noRow {w : World} {db nb mb n cap : Nat} {B : List UInt8} {k : Nat} {D : DataW Unit} {left : Int} {down : Bool} (h : DevAt w db nb mb n cap B k D left down) : NoRow w mb := by
  obtain ⟨es, clock, hb, _⟩ := h.was
  intro cur T e
  rw [hb] at e
  cases e
theorem RecV.keepM {S : Nat → Prop} {w w' : World} {lo mb : Nat} {v : Value} {r : List UInt8} (h : RecV w lo v r) (hk : Keeps S w w') (hm : NoRow w mb) (hs : ∀ i, lo ≤ i → S i → i = mb) : RecV w' lo v r := by
  obtain ⟨g, c, e, hc, hl, hb⟩ := h
  refine ⟨g, c, e, hc, hl, hb.keep hk (fun hx => ?_)⟩
  have := hs g hl hx
  subst this
  obtain ⟨cur, hH, _⟩ := hb
  exact hm _ _ hH
/-- Records stay while the device's blocks turn. -/
theorem RecsAt.keepM {S : Nat → Prop} {w w' : World} {lo mb : Nat} {v : Value} {R : List (List UInt8)} (h : RecsAt w lo v R) (hk : Keeps S w w') (hm : NoRow w mb) (hs : ∀ i, lo ≤ i → S i → i = mb) : RecsAt w' lo v R := by
  obtain ⟨V, hO, h2⟩ := h
  refine ⟨V, ⟨hO.1, ?_⟩, fun j u r a b => (h2 j u r a b).keepM hk hm hs⟩
  rcases hO.2 with q | ⟨g, cap, cur, hv, hb, hg, rest⟩
  · exact .inl q
  · refine .inr ⟨g, cap, cur, hv, hb, (hk.block g (Array.getElem?_eq_some_iff.1 hg).1 (fun hx => ?_)).trans hg, rest⟩
    have := hs g hb hx
    subst this
    exact hm _ _ hg
/-- A device, its slots and its log in memory, nothing loose, no fuse. -/
structure Seat (base : Nat) (w : World) (db nb mb n cap k lb sb : Nat) (B : List UInt8) : Prop where
  d : DevAt w db nb mb n cap B k (.map []) 0 false
  l : LgAt w lb db n sb false 0 0 0 0
  s : SlAt w sb db false
  ne : sb ≠ db ∧ sb ≠ nb ∧ sb ≠ mb
  nl : lb ≠ db ∧ lb ≠ nb ∧ lb ≠ mb ∧ lb ≠ sb
  low : base ≤ db ∧ base ≤ nb ∧ base ≤ mb ∧ base ≤ sb ∧ base ≤ lb
/-- The blocks that turn. -/
def five (db nb mb sb lb : Nat) (i : Nat) : Prop := i = db ∨ i = nb ∨ i = mb ∨ i = sb ∨ i = lb
theorem Seat.keep {base : Nat} {w w' : World} {db nb mb n cap k lb sb : Nat} {B : List UInt8} (h : Seat base w db nb mb n cap k lb sb B) (hb : Below w.heap.size w w') : Seat base w' db nb mb n cap k lb sb B :=
  have hK := Keeps.of_below (S := fun _ => False) hb
  ⟨h.d.keeps hK (fun e => e) (fun e => e) (fun e => e), h.l.keeps hK (fun e => e), h.s.keeps hK (fun e => e), h.ne, h.nl, h.low⟩
/-- A log that was made anew. -/
theorem wmake_seat {base : Nat} {w : World} {db nb mb n cap : Nat} {B : List UInt8} {k : Nat} (hd : DevAt w db nb mb n cap B k (.map []) 0 false) (hk : k ≤ 900) (hn : 64 ≤ n) (hb : base ≤ w.heap.size ∧ base ≤ db ∧ base ≤ nb ∧ base ≤ mb) :
    Calls Tryz.prog 16 #[.pointer (some ⟨db, 0, none⟩)] w fun e w' => ∃ mb' k' B' lb sb, e = .returned (.tuple #[.pointer (some ⟨lb, 0, none⟩), .int .i64 0]) ∧ Seat base w' db nb mb' n cap k' lb sb B' ∧ k' ≤ k + 2 ∧ LogOn n B' 0 [] 0 0 ∧ Keeps (fun i => i = db ∨ i = nb ∨ i = mb) w w' := by
  have hBl := hd.len
  refine (wmake_at hd (by omega)).mono ?_
  rintro e w7 ⟨code7, pv7, mb7, k7, B7, D7, left7, down7, rfl, hd7, hk7, hm7, hK7, hM7, _, hpv7⟩
  obtain ⟨rfl, hG7⟩ := make_good hBl (by omega) (by simp) fit0 hM7
  obtain ⟨lb, sb, rfl, v1, v2, v3, hL7, hS7, v4, v5⟩ := hpv7 rfl
  obtain ⟨rfl, rfl, rfl⟩ : D7 = .map [] ∧ left7 = 0 ∧ down7 = false := ⟨hG7.d, hG7.l, hG7.dn⟩
  have hlog7 := logon_new hn hd7.len (good_told hG7)
  clear hpv7 hM7 hG7
  exact ⟨mb7, k7, B7, lb, sb, rfl, ⟨hd7, hL7, hS7, v4, v5, by omega⟩, hk7, hlog7, hK7⟩
/-- An Append that nothing cuts off. -/
theorem append_seat {base : Nat} {w : World} {db nb mb n cap k lb sb : Nat} {B : List UInt8} (h : Seat base w db nb mb n cap k lb sb B) {a : Nat} {R : List (List UInt8)} {x y : Int} (hlog : LogOn n B a R x y) (g o bc : Nat) (s : List UInt8) (m : Nat) (hm : s.length = m) (hs0 : 1 ≤ m) (hs1 : m ≤ 1000) (hz : (encR R).length + (m + 2) ≤ ringN n) (hsrc : w.rangeAt g o (bytesV s)) (_hbw : base ≤ w.heap.size) (hk : k ≤ 1000) :
    Calls Tryz.prog 18 #[.pointer (some ⟨lb, 0, none⟩), .slice (some ⟨g, o, none⟩) m bc] w fun e w' => ∃ mb' k' B', e = .returned (.int .i64 0) ∧ Seat base w' db nb mb' n cap k' lb sb B' ∧ k' ≤ 1 ∧ LogOn n B' a (R ++ [s]) x y ∧ Keeps (five db nb mb sb lb) w w' := by
  have hll := h.l.lt
  have hsl := h.s.lt
  have h1 := h.ne
  have h2 := h.nl
  have h3 := h.low
  refine (append_calm_at h.l h.d h.s h.ne h.nl hk hlog g o bc s m hm hs0 hs1 hz hsrc).mono ?_
  rintro e w8 ⟨mb8, k8, B8, rfl, hd8, hk8, hm8, hK8, hS8, hL8, hlog8⟩
  exact ⟨mb8, k8, B8, rfl, ⟨hd8, hL8, hS8, ⟨h1.1, h1.2.1, by omega⟩, ⟨h2.1, h2.2.1, by omega, h2.2.2.2⟩, by omega⟩, hk8, hlog8, hK8⟩
/-- A Reset that nothing cuts off. -/
theorem reset_seat {base : Nat} {w : World} {db nb mb n cap k lb sb : Nat} {B : List UInt8} (h : Seat base w db nb mb n cap k lb sb B) {a : Nat} {R : List (List UInt8)} {x y : Int} (hlog : LogOn n B a R x y) (x2 y2 : Int) (hx : AllFit [x2, y2]) (_hbw : base ≤ w.heap.size) (hk : k ≤ 1000) :
    Calls Tryz.prog 19 #[.pointer (some ⟨lb, 0, none⟩), .int .i64 x2, .int .i64 y2] w fun e w' => ∃ mb' k' B' a', e = .returned (.int .i64 0) ∧ Seat base w' db nb mb' n cap k' lb sb B' ∧ k' ≤ k + 1 ∧ LogOn n B' a' [] x2 y2 ∧ Keeps (five db nb mb sb lb) w w' := by
  have hll := h.l.lt
  have hsl := h.s.lt
  have h1 := h.ne
  have h2 := h.nl
  have h3 := h.low
  refine (reset_calm_at h.l h.d h.s h.ne h.nl hk hlog x2 y2 hx).mono ?_
  rintro e w8 ⟨mb8, k8, B8, q8, rfl, hd8, hk8, hm8, hK8, hS8, hL8, hlog8⟩
  exact ⟨mb8, k8, B8, q8, rfl, ⟨hd8, hL8, hS8, ⟨h1.1, h1.2.1, by omega⟩, ⟨h2.1, h2.2.1, by omega, h2.2.2.2⟩, by omega⟩, hk8, hlog8, hK8⟩
/-- Records are put behind the others. -/
theorem RecsAt.pushes {w w' : World} {lo : Nat} {v v' : Value} {R R2 : List (List UInt8)} {V V2 : List Value} (h1 : w.ownsRow lo 34 1 v R.length V) (h2 : ∀ (j : Nat) (u : Value) (r : List UInt8), V[j]? = some u → R[j]? = some r → RecV w lo u r) (hr : ∀ (j : Nat) (u : Value) (r : List UInt8), V2[j]? = some u → R2[j]? = some r → RecV w lo u r) (hO : w'.ownsRow lo 34 1 v' (R.length + R2.length) (V ++ V2)) (hg : w.grownBy w' v.ownBlock) : RecsAt w' lo v' (R ++ R2) := by
  have hk : Keeps (fun i => v.ownBlock = some i) w w' := (Keeps.refl _ w).grown hg (fun k e => e)
  have hne : ∀ {u : Value} {r : List UInt8}, RecV w lo u r → RecV w' lo u r := by
    rintro u r ⟨g, c, e, hc, hl, hb⟩
    refine ⟨g, c, e, hc, hl, hb.keep hk (fun hx => ?_)⟩
    obtain ⟨cur, hH, _⟩ := hb
    rcases h1.2 with ⟨rfl, _⟩ | ⟨gr, cap, cur2, rfl, _, hg2, _⟩
    · cases hx
    · cases hx
      rw [hg2] at hH
      cases hH
  refine ⟨V ++ V2, by rw [List.length_append]; exact hO, fun j u' r' a b => ?_⟩
  have hl : V.length = R.length := by have := h1.1; omega
  by_cases hj : j < V.length
  · rw [List.getElem?_append_left hj] at a
    rw [List.getElem?_append_left (by omega)] at b
    exact hne (h2 j u' r' a b)
  · rw [List.getElem?_append_right (by omega)] at a b
    rw [hl] at a
    exact hne (hr _ u' r' a b)
theorem grownBy_refl (w : World) (q : Option Nat) : w.grownBy w q := ⟨rfl, rfl, rfl, Nat.le_refl _, fun _ _ _ => rfl⟩
/-- append of some records behind others. -/
theorem wpList_append_recs {w : World} {ops : Array Oper} {rest : List Oper} {o : Oper} {a : Act} {Q : Exit → Act → World → Prop} (hgd : o.guard = none) (s x : Operand)
    (ho : o.op = .call { callee := .builtin .append, args := #[s, x], argTypes := #[30, 30] }) (lo : Nat) (v v2 : Value) (R R2 : List (List UInt8)) (hs : a.eval s = v) (h1 : RecsAt w lo v R) (hx : a.eval x = v2) (h2 : RecsAt w lo v2 R2) (hlo : lo ≤ w.heap.size) (hb : R.length + R2.length ≤ 100000)
    (h : ∀ v' w', RecsAt w' lo v' (R ++ R2) → w.grownBy w' v.ownBlock → (v'.ownBlock = v.ownBlock ∨ v'.ownBlock = some w.heap.size) → wpList Tryz.prog ops Q rest (a.put o.dst v') w') : wpList Tryz.prog ops Q (o :: rest) a w := by
  obtain ⟨i0, hi, hz0, hz1, hz2⟩ := info_parts info44
  obtain ⟨V, hO, hV⟩ := h1
  obtain ⟨V2, hO2, hV2⟩ := h2
  rcases hO2.2 with ⟨rfl, h0⟩ | ⟨g, cap, cur, rfl, hbg, hg, hnc, hcm, hcs, htk⟩
  · refine wpList_append_own_none hgd s x 30 ho lo 34 i0 1 Tryz.underlying30 hi v R.length V hs hO hx (h v w ?_ (grownBy_refl _ _) (Or.inl rfl))
    rw [List.eq_nil_of_length_eq_zero h0, List.append_nil]
    exact ⟨V, hO, hV⟩
  · refine wpList_append_own_at w hgd s x 30 ho lo 34 i0 (.slice none 0 0) 1 24 Tryz.underlying30 hi hz0 hz1 hz2 rfl (by decide) v R.length V hs hO ⟨g, 0, none⟩ R2.length cap V2 hx hO2.1 ?_ ?_ (by unfold maxLen; omega) (by omega) hlo (fun v1 w5 k1 k2 _ k3 => h v1 w5 (RecsAt.pushes hO hV hV2 k1 k2) k2 k3)
    · intro j u hu
      rw [Addr.add_mid, cell_of_row _ _ (0 + j) cur 34 (0, 0) hg]
      rw [Nat.mul_one] at htk
      rw [← htk, List.getElem?_take] at hu
      split at hu
      · simpa using hu
      · cases hu
    · intro u hu
      obtain ⟨j, hj, e⟩ := List.getElem_of_mem hu
      have hjR : j < R2.length := by have := hO2.1; omega
      obtain ⟨g2, c2, rfl, _⟩ := hV2 j u _ (by rw [List.getElem?_eq_getElem hj, e]) (List.getElem?_eq_getElem hjR)
      rfl
/-- append of one record behind others. -/
theorem wpList_append_rec {w : World} {ops : Array Oper} {rest : List Oper} {o : Oper} {a : Act} {Q : Exit → Act → World → Prop} (hgd : o.guard = none) (s x : Operand)
    (ho : o.op = .call { callee := .builtin .append, args := #[s, x], argTypes := #[30, 30] }) (lo : Nat) (v : Value) (R : List (List UInt8)) (hs : a.eval s = v) (h1 : RecsAt w lo v R) (b : Nat) (u : Value) (r : List UInt8) (hx : a.eval x = .slice (some ⟨b, 0, none⟩) 1 1) (hc : w.cell? ⟨b, 0, none⟩ = some u) (h2 : RecV w lo u r) (hlo : lo ≤ w.heap.size) (hb : R.length ≤ 100000)
    (h : ∀ v' w', RecsAt w' lo v' (R ++ [r]) → w.grownBy w' v.ownBlock → (v'.ownBlock = v.ownBlock ∨ v'.ownBlock = some w.heap.size) → wpList Tryz.prog ops Q rest (a.put o.dst v') w') : wpList Tryz.prog ops Q (o :: rest) a w := by
  obtain ⟨i0, hi, hz0, hz1, hz2⟩ := info_parts info44
  obtain ⟨V, hO, hV⟩ := h1
  refine wpList_append_own_at w hgd s x 30 ho lo 34 i0 (.slice none 0 0) 1 24 Tryz.underlying30 hi hz0 hz1 hz2 rfl (by decide) v R.length V hs hO ⟨b, 0, none⟩ 1 1 [u] hx rfl ?_ ?_ (by unfold maxLen; omega) (by omega) hlo (fun v1 w5 k1 k2 _ k3 => h v1 w5 (RecsAt.pushes (R2 := [r]) hO hV ?_ k1 k2) k2 k3)
  · intro j u' hu
    match j, hu with
    | 0, hu => rw [Addr.add_mid]; simp at hu; subst hu; exact hc
    | k + 1, hu => simp at hu
  · intro u' hu
    rw [List.mem_singleton] at hu
    subst hu
    obtain ⟨g2, c2, rfl, _⟩ := h2
    rfl
  · intro j u' r' hu hr
    match j, hu, hr with
    | 0, hu, hr => simp at hu hr; subst hu hr; exact h2
    | k + 1, hu, _ => simp at hu
theorem RecsAt.grownKeeps {w w' : World} {lo : Nat} {v : Value} {R : List (List UInt8)} (hr : RecsAt w lo v R) (hg : w.grownBy w' v.ownBlock) : Keeps (fun i => lo ≤ i) w w' ∧ ∀ mb, NoRow w mb → ¬ (v.ownBlock = some mb) := by
  obtain ⟨V, hO, _⟩ := hr
  refine ⟨(Keeps.refl _ w).grown hg (fun k e => ?_), fun mb hm e => ?_⟩
  · rcases hO.2 with ⟨rfl, _⟩ | ⟨g, cap, cur, rfl, hb, _⟩
    · cases e
    · cases e; exact hb
  · rcases hO.2 with ⟨rfl, _⟩ | ⟨g, cap, cur, rfl, hb, hg2, _⟩
    · cases e
    · cases e; exact hm _ _ hg2
/-- The device stays where a list of records grows. -/
theorem DevAt.grownR {w w' : World} {db nb mb n cap : Nat} {B : List UInt8} {k : Nat} {D : DataW Unit} {left : Int} {down : Bool} (h : DevAt w db nb mb n cap B k D left down) {lo : Nat} {v : Value} {R : List (List UInt8)} (hr : RecsAt w lo v R) (hg : w.grownBy w' v.ownBlock) (h4 : db < lo ∧ nb < lo) : DevAt w' db nb mb n cap B k D left down := by
  have hk : Keeps (fun i => v.ownBlock = some i) w w' := (Keeps.refl _ w).grown hg (fun k e => e)
  have hx := (hr.grownKeeps hg).2 mb h.noRow
  obtain ⟨V, hO, _⟩ := hr
  have hlo : ∀ i, v.ownBlock = some i → lo ≤ i := fun i e => by
    rcases hO.2 with ⟨rfl, _⟩ | ⟨g, cap, cur, rfl, hb, _⟩
    · cases e
    · cases e; exact hb
  exact h.keeps hk (fun e => by have := hlo _ e; omega) (fun e => by have := hlo _ e; omega) hx
theorem Seat.grownR {base : Nat} {w w' : World} {db nb mb n cap k lb sb : Nat} {B : List UInt8} (h : Seat base w db nb mb n cap k lb sb B) {lo : Nat} {v : Value} {R : List (List UInt8)} (hr : RecsAt w lo v R) (hg : w.grownBy w' v.ownBlock) (h4 : db < lo ∧ nb < lo ∧ sb < lo ∧ lb < lo) : Seat base w' db nb mb n cap k lb sb B := by
  have hk := (hr.grownKeeps hg).1
  exact ⟨h.d.grownR hr hg ⟨h4.1, h4.2.1⟩, h.l.keeps hk (by omega), h.s.keeps hk (by omega), h.ne, h.nl, h.low⟩
/-- An Append that may be cut off. -/
theorem append_cut {w : World} {lb db nb mb n cap sb : Nat} {B : List UInt8} {k : Nat} {left : Int} {down : Bool} {a' z' x' y' : Int} (h : LgAt w lb db n sb false a' z' x' y') (hd : DevAt w db nb mb n cap B k (.map []) left down) (hS : SlAt w sb db false) (hne : sb ≠ db ∧ sb ≠ nb ∧ sb ≠ mb) (hlne : lb ≠ db ∧ lb ≠ nb ∧ lb ≠ mb ∧ lb ≠ sb) (hk : k ≤ 1000) {a : Nat} {R : List (List UInt8)} {x y : Int} (hlog : LogOn n B a R x y) (g o bc : Nat) (s : List UInt8) (m : Nat) (hm : s.length = m) (hs0 : 1 ≤ m) (hs1 : m ≤ 1000) (hz : (encR R).length + (m + 2) ≤ ringN n) (hsrc : w.rangeAt g o (bytesV s)) :
    Calls Tryz.prog 18 #[.pointer (some ⟨lb, 0, none⟩), .slice (some ⟨g, o, none⟩) m bc] w fun e w' => ∃ code mb' k' B' D' left' down', e = .returned (.int .i64 code) ∧ DevAt w' db nb mb' n cap B' k' D' left' down' ∧ k' ≤ k + 1100 ∧ (mb' = mb ∨ w.heap.size ≤ mb') ∧ Keeps (five db nb mb sb lb) w w' ∧ (code = 0 ∨ code = 9 ∧ LgAt w' lb db n sb true a (encR R).length x y) ∧ ∀ (K : List Bool) (L : List Int), L.Perm (intKeys D') → LogOn n (crashB D' K L B' L.length) a (R ++ [s]) x y ∨ code = 9 ∧ LogOn n (crashB D' K L B' L.length) a R x y := by
  subst hm
  have hn1 := hd.n1
  have hn2 := hd.n2
  refine (append_at h hd hS hne hlne hk a (encR R).length x y hlog.tl hlog.al hlog.fit2 g o bc s hs0 hs1 hz hsrc).mono ?_
  rintro e w8 ⟨code8, mb8, k8, B8, D8, left8, down8, rfl, hd8, hk8, hk8', hm8, hK8, hO8, _, _, hL8⟩
  refine ⟨code8, mb8, k8, B8, D8, left8, down8, rfl, hd8, hk8, hm8, hK8, ?_, ?_⟩
  · rcases append_lasts hn1 hn2 hlog ⟨hs0, hs1⟩ hz hO8 with ⟨e, _⟩ | ⟨e, _⟩
    · exact Or.inl e
    · exact Or.inr ⟨e, hL8 (by omega)⟩
  · intro K L hp
    rcases append_lasts hn1 hn2 hlog ⟨hs0, hs1⟩ hz hO8 with ⟨_, rfl, hl⟩ | ⟨e, _, hC⟩
    · rw [crash_nothing hp]; exact Or.inl hl
    · rcases hC hd8 K hp with q | q
      · exact Or.inr ⟨e, q⟩
      · exact Or.inl q
/-- A Reset that may be cut off. -/
theorem reset_cut {w : World} {lb db nb mb n cap sb : Nat} {B : List UInt8} {k : Nat} {left : Int} {down : Bool} {a' z' x' y' : Int} (h : LgAt w lb db n sb false a' z' x' y') (hd : DevAt w db nb mb n cap B k (.map []) left down) (hS : SlAt w sb db false) (hne : sb ≠ db ∧ sb ≠ nb ∧ sb ≠ mb) (hlne : lb ≠ db ∧ lb ≠ nb ∧ lb ≠ mb ∧ lb ≠ sb) (hk : k ≤ 1000) {a : Nat} {R : List (List UInt8)} {x y : Int} (hlog : LogOn n B a R x y) (x2 y2 : Int) (hx : AllFit [x2, y2]) :
    Calls Tryz.prog 19 #[.pointer (some ⟨lb, 0, none⟩), .int .i64 x2, .int .i64 y2] w fun e w' => ∃ code mb' k' B' D' left' down', e = .returned (.int .i64 code) ∧ DevAt w' db nb mb' n cap B' k' D' left' down' ∧ k' ≤ k + 1100 ∧ (mb' = mb ∨ w.heap.size ≤ mb') ∧ Keeps (five db nb mb sb lb) w w' ∧ (code = 0 ∨ code = 9) ∧ ∀ (K : List Bool) (L : List Int), L.Perm (intKeys D') → (∃ a', LogOn n (crashB D' K L B' L.length) a' [] x2 y2) ∨ code = 9 ∧ LogOn n (crashB D' K L B' L.length) a R x y := by
  have hn1 := hd.n1
  have hn2 := hd.n2
  refine (reset_at h hd hS hne hlne hk a (encR R).length x y hlog.tl hlog.al hlog.sz x2 y2 hx).mono ?_
  rintro e w8 ⟨code8, mb8, k8, B8, D8, left8, down8, rfl, hd8, hk8, hm8, hK8, hO8, _⟩
  refine ⟨code8, mb8, k8, B8, D8, left8, down8, rfl, hd8, by omega, hm8, hK8, ?_, ?_⟩
  · rcases reset_lasts hn1 hn2 hlog hx hO8 with ⟨e, _⟩ | ⟨e, _⟩
    · exact Or.inl e
    · exact Or.inr e
  · intro K L hp
    rcases reset_lasts hn1 hn2 hlog hx hO8 with ⟨_, rfl, hl⟩ | ⟨e, _, hC⟩
    · rw [crash_nothing hp]; exact Or.inl ⟨_, hl⟩
    · rcases hC hd8 K hp with q | q
      · exact Or.inr ⟨e, q⟩
      · exact Or.inl ⟨_, q⟩
end Go.Proofs.YtlmdeafmlommeaaGreatDoor
