import Derived.Test.YtmdjjnjhjojimaaDoorBinB
import Derived.Lib.AppendStr
namespace Go.Proofs.YtmdjjnjhjojimaaDoor
open Go.RowKit Go.Maps

theorem appendInt_shape (a : Option Addr) (m c base : Nat) (xs : List Value) (n : Int) (w : World) (h0 : -9223372036854775808 ≤ n) (h1 : n ≤ 9223372036854775807) (hown : w.ownsRow base 5 1 (.slice a m c) m xs) (hbase : base ≤ w.heap.size) (hm : m ≤ 1000000000) :
    Calls Tryd.prog 51 #[.slice a m c, .int .i64 n] w fun e w' => ∃ g c', e = .returned (.slice (some ⟨g, 0, none⟩) (m + (1 + wid n)) c') ∧ w'.ownsRow base 5 1 (.slice (some ⟨g, 0, none⟩) (m + (1 + wid n)) c') (m + (1 + wid n)) (xs ++ bytesV (encInt n)) ∧
      Keeps (fun i => (Value.slice a m c).ownBlock = some i) w w' ∧ Moved w (.slice a m c) (.slice (some ⟨g, 0, none⟩) (m + (1 + wid n)) c') := by
  refine (appendInt_any (.slice a m c) m base xs n w h0 h1 hown hbase hm).mono ?_
  rintro e w' ⟨v', rfl, hrow, hk, hmv, hne⟩
  have hrow' := hrow
  obtain ⟨hl, ⟨rfl, _⟩ | ⟨g, c', cur, rfl, _⟩⟩ := hrow
  · exact absurd rfl hne
  · exact ⟨g, c', rfl, hrow', hk, hmv⟩

/-- A Writer in memory: its block wb, the bytes s that it holds. -/
structure WrAt (w : World) (wb base : Nat) (s : List UInt8) (a : Option Addr) (c : Nat) : Prop where
  c0 : w.cell? ⟨wb, 0, none⟩ = some (.slice a s.length c)
  f0 : w.frozen? ⟨wb, 0, none⟩ = false
  row : w.ownsRow base 5 1 (.slice a s.length c) s.length (bytesV s)
  bs : base ≤ w.heap.size
  ne : (Value.slice a s.length c).ownBlock ≠ some wb

theorem WrAt.lt {w : World} {wb base : Nat} {s : List UInt8} {a : Option Addr} {c : Nat} (h : WrAt w wb base s a c) : wb < w.heap.size := World.block_lt_of_cell? w _ h.c0

/-- What a Writer's calls may turn. -/
abbrev WrMay (wb : Nat) (v : Value) : Nat → Prop := fun i => i = wb ∨ v.ownBlock = some i

/-- A new value is laid into the Writer's field. -/
theorem WrAt.stored {w w1 : World} {wb base g c' l : Nat} {s t : List UInt8} {a : Option Addr} {c : Nat} (h : WrAt w wb base s a c) (hl : l = (s ++ t).length) (hrow : w1.ownsRow base 5 1 (.slice (some ⟨g, 0, none⟩) l c') l (bytesV (s ++ t)))
    (hk : Keeps (fun i => (Value.slice a s.length c).ownBlock = some i) w w1) (hmv : Moved w (.slice a s.length c) (.slice (some ⟨g, 0, none⟩) l c')) :
    WrAt (w1.setCell ⟨wb, 0, none⟩ (.slice (some ⟨g, 0, none⟩) l c')) wb base (s ++ t) (some ⟨g, 0, none⟩) c' ∧ Keeps (WrMay wb (.slice a s.length c)) w (w1.setCell ⟨wb, 0, none⟩ (.slice (some ⟨g, 0, none⟩) l c')) := by
  subst hl
  have hlt := h.lt
  have hgw : g ≠ wb := by
    rcases hmv with e | ⟨b, e, hb⟩
    · intro x; subst x; exact h.ne (by rw [← e]; rfl)
    · have e' : g = b := by simpa [Value.ownBlock] using e
      omega
  have c1 : w1.cell? ⟨wb, 0, none⟩ = some (.slice a s.length c) := (hk.cell (p := ⟨wb, 0, none⟩) hlt h.ne).trans h.c0
  have f1 : w1.frozen? ⟨wb, 0, none⟩ = false := (hk.frozen (p := ⟨wb, 0, none⟩) hlt h.ne).trans h.f0
  refine ⟨{ c0 := by rw [World.cell?_setCell_same _ _ _ c1], f0 := by rw [World.frozen?_setCell]; exact f1, row := ?_, bs := ?_, ne := by simp [Value.ownBlock]; exact hgw }, ?_⟩
  · obtain ⟨hl, ⟨e, _⟩ | ⟨g', cap, cur, e, r1, r2, r3⟩⟩ := hrow
    · cases e
    · refine ⟨hl, Or.inr ⟨g', cap, cur, e, r1, ?_, r3⟩⟩
      cases e
      rw [Below.heap_setCell _ _ _ _ hgw]; exact r2
  · have := hk.size; have := h.bs; simp [World.setCell]; omega
  · have hk' : Keeps (WrMay wb (.slice a s.length c)) w w1 := hk.mono (fun i e => Or.inr e)
    exact hk'.setCell (S := WrMay wb (.slice a s.length c)) (p := ⟨wb, 0, none⟩) (Or.inl rfl) _

theorem flat_len : ∀ (l : List Int) (j : Nat), l.length ≤ j → (l.flatMap encInt).length ≤ 10 * j
  | [], _, _ => by simp
  | x :: r, j, h => by
    have h1 := flat_len r (j - 1) (by simp at h; omega)
    have h2 := wid_le x
    rw [List.flatMap_cons, List.length_append, encInt_length]
    simp at h; omega
theorem wrKeeps {w wr w2 : World} {wb : Nat} {v u : Value} (h : Keeps (WrMay wb v) w wr) (hm : Moved w v u) (h2 : Keeps (WrMay wb u) wr w2) : Keeps (WrMay wb v) w w2 :=
  ⟨h2.os.trans h.os, h2.tape.trans h.tape, h2.output.trans h.output, Nat.le_trans h.size h2.size, fun i hi hs => (h2.block i (Nat.lt_of_lt_of_le hi h.size) (fun e => by
    rcases e with e | e
    · exact hs (Or.inl e)
    · rcases hm with x | ⟨b, x, hb⟩
      · exact hs (Or.inr (x.symm.trans e))
      · rw [x] at e; cases e; omega)).trans (h.block i hi hs)⟩

theorem int_nil (ns : Value) (w : World) : Calls Tryd.prog 26 #[.pointer none, ns] w fun e w' => e = .returned (.tuple #[]) ∧ w' = w := by
  go_enter Tryd.func26, Tryd.ntmps26
  go_wp2
  first | go_end0 | refine bodyPost_ret (results_none rfl _ _ _) rfl ?_
  exact ⟨rfl, rfl⟩

set_option maxRecDepth 100000 in
set_option maxHeartbeats 400000 in
theorem int_any {w : World} {wb base : Nat} {s : List UInt8} {a : Option Addr} {c : Nat} (h : WrAt w wb base s a c) (nb no nc : Nat) (ns : List Int) (hns : w.rangeAt nb no (ns.map (Value.int .i64))) (hn1 : nb ≠ wb) (hn2 : (Value.slice a s.length c).ownBlock ≠ some nb)
    (hwf : ∀ x ∈ ns, -9223372036854775808 ≤ x ∧ x ≤ 9223372036854775807) (hm : s.length + 10 * ns.length ≤ 1000000000) :
    Calls Tryd.prog 26 #[.pointer (some ⟨wb, 0, none⟩), .slice (some ⟨nb, no, none⟩) ns.length nc] w fun e w' => ∃ a' c', e = .returned (.tuple #[]) ∧ WrAt w' wb base (s ++ ns.flatMap encInt) a' c' ∧ Keeps (WrMay wb (.slice a s.length c)) w w' ∧ Moved w (.slice a s.length c) (.slice a' (s ++ ns.flatMap encInt).length c') := by
  go_enter Tryd.func26, Tryd.ntmps26
  go_wp2
  go_loopw [10] (fun i wr => ∃ (j : Nat) (a' : Option Addr) (c' : Nat), j ≤ ns.length ∧ i = .int .i64 j ∧ WrAt wr wb base (s ++ (ns.take j).flatMap encInt) a' c' ∧ Keeps (WrMay wb (.slice a s.length c)) w wr ∧ Moved w (.slice a s.length c) (.slice a' (s ++ (ns.take j).flatMap encInt).length c')) (fun i _ => ns.length - (RowKit.intOf i).toNat)
  case atStart => exact ⟨0, a, c, Nat.zero_le _, rfl, by simpa using h, Keeps.refl _ _, Or.inl (by simp)⟩
  case round =>
    obtain ⟨j, a', c', hj, rfl, hwr, hkr, hmr⟩ := hrel
    by_cases hlt : j < ns.length
    · have hmem : ns[j] ∈ ns := List.getElem_mem hlt
      obtain ⟨x, hx⟩ : ∃ x, ns[j] = x := ⟨_, rfl⟩
      have hxb := hwf _ hmem
      rw [hx] at hxb
      have hcell : wr.cell? ⟨nb, no + j, none⟩ = some (.int .i64 x) := by
        have e1 := hns j (.int .i64 x) (by rw [List.getElem?_map, List.getElem?_eq_getElem hlt, hx]; rfl)
        have e2 := hkr.cell (p := ⟨nb, no + j, none⟩) (World.block_lt_of_cell? _ _ e1) (by rintro (e | e); exact hn1 e; exact hn2 e)
        exact e2.trans e1
      have HT : Hid ((ns.take (j + 1)).flatMap encInt = (ns.take j).flatMap encInt ++ encInt x) := by
        show (ns.take (j + 1)).flatMap encInt = _
        rw [List.take_succ_eq_append_getElem hlt, List.flatMap_append, hx]; simp
      have hlen : ((ns.take j).flatMap encInt).length ≤ 10 * j := flat_len _ _ (by rw [List.length_take]; omega)
      have HT' : Hid (s ++ (ns.take (j + 1)).flatMap encInt = (s ++ (ns.take j).flatMap encInt) ++ encInt x) := by
        show s ++ (ns.take (j + 1)).flatMap encInt = _
        rw [HT.out, List.append_assoc]
      have hsl : (s ++ (ns.take j).flatMap encInt).length ≤ 1000000000 := by rw [List.length_append]; omega
      generalize hS : s ++ (ns.take j).flatMap encInt = sj at hwr hmr HT' hsl
      clear hS HT hlen hx hmem hns hwf
      have c0 := hwr.c0
      have hbr : base ≤ wr.heap.size := hwr.bs
      have hsz := hkr.size
      go_wp2_with fail
      refine (appendInt_shape a' sj.length c' base _ x wr hxb.1 hxb.2 hwr.row hbr hsl).mono ?_
      rintro e w1 ⟨g, c1, rfl, hrow1, hk1, hm1⟩
      have HL : Hid (sj.length + (1 + wid x) = (sj ++ encInt x).length) := by show _ = _; rw [List.length_append, encInt_length]
      have hst := hwr.stored HL.out (by rw [bytesV_append]; exact hrow1) hk1 hm1
      have cc : w1.cell? ⟨wb, 0, none⟩ = some (.slice a' sj.length c') := (hk1.cell (p := ⟨wb, 0, none⟩) hwr.lt hwr.ne).trans hwr.c0
      have cf : w1.frozen? ⟨wb, 0, none⟩ = false := (hk1.frozen (p := ⟨wb, 0, none⟩) hwr.lt hwr.ne).trans hwr.f0
      have HST := hst
      clear hst c0
      go_wp2
      go_roundw
      case rel => exact ⟨j + 1, some ⟨g, 0, none⟩, c1, by omega, by go_num, by rw [HT'.out]; exact HST.1, wrKeeps hkr hmr HST.2, by rw [HT'.out, ← HL.out]; exact hmr.trans hm1 hsz⟩
      case measure => simp [RowKit.intOf]; omega
    · go_wp2
      have : j = ns.length := by omega
      subst this
      go_end0
      rw [List.take_length] at hwr hmr
      exact ⟨a', c', rfl, hwr, hkr, hmr⟩
end Go.Proofs.YtmdjjnjhjojimaaDoor
