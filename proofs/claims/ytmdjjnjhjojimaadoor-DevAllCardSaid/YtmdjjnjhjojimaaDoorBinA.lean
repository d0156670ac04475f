import Derived.Test.YtmdjjnjhjojimaaDoorClone
import Derived.Test.YtmdjjnjhjojimaaDoorLayB
import Derived.Maps.AppendAt
import Derived.Laws.BitsAllLaws
import Derived.Deep.DeepMust
import Derived.Lib.AppendStr
namespace Go.Proofs.YtmdjjnjhjojimaaDoor
open Go.RowKit Go.Maps

/-- In how many bytes a number fits with its sign. -/
def mag (n : Int) : Nat := (if n < 0 then -1 - n else n).toNat
def wid (n : Int) : Nat := if n = 0 then 0 else Lib.bitLen (mag n) / 8 + 1

theorem len64 (x : Int) (w : World) (h0 : 0 ≤ x) (h1 : x ≤ 18446744073709551615) :
    Calls Tryd.prog 73 #[.int .u64 x] w fun e w' => e = .returned (.int .i64 (Lib.bitLen x.toNat)) ∧ w' = w := Any.bits_Len64 Tryd.lays129 x w h0 h1

theorem width_zero (w : World) : Calls Tryd.prog 62 #[.int .i64 0] w fun e w' => e = .returned (.int .i64 0) ∧ w' = w := by
  go_enter Tryd.func62, Tryd.ntmps62
  go_wp2
  go_ret
  exact ⟨rfl, rfl⟩

theorem xor_sign (n : Int) (h0 : -9223372036854775808 ≤ n) (h1 : n ≤ 9223372036854775807) : IntKind.u64.wrap (bits BinOp.xor IntKind.i64 n (n / 9223372036854775808)) = (mag n : Int) := by
  have hw : ∀ x : Int, IntKind.u64.wrap x = x % 18446744073709551616 := fun x => by simp [IntKind.wrap, IntKind.bits, IntKind.signed]
  have hi : ∀ x : Int, IntKind.i64.wrap x = wrap64 x := fun x => by rw [IntKind.wrap_i64]; unfold wrap64; rfl
  by_cases hn : n < 0
  · have e : n / 9223372036854775808 = -1 := by omega
    rw [e]
    have hx : bits BinOp.xor IntKind.i64 n (-1) = -1 - n := by
      show IntKind.i64.wrap ((BitVec.ofInt 64 n ^^^ BitVec.ofInt 64 (-1)).toNat : Int) = _
      have h1' : BitVec.ofInt 64 (-1) = BitVec.allOnes 64 := by decide
      rw [h1', BitVec.xor_allOnes, BitVec.toNat_not, BitVec.toNat_ofInt]
      simp [IntKind.wrap, IntKind.bits, IntKind.signed]
      omega
    rw [hx, hw, mag, if_pos hn]
    omega
  · have e : n / 9223372036854775808 = 0 := by omega
    rw [e]
    have hx : bits BinOp.xor IntKind.i64 n 0 = n := by
      show IntKind.i64.wrap ((BitVec.ofInt 64 n ^^^ BitVec.ofInt 64 0).toNat : Int) = _
      have h1' : BitVec.ofInt 64 0 = 0#64 := by decide
      rw [h1', BitVec.xor_zero, BitVec.toNat_ofInt]
      simp [IntKind.wrap, IntKind.bits, IntKind.signed]
      omega
    rw [hx, hw, mag, if_neg hn]
    omega
theorem mag_le (n : Int) (h0 : -9223372036854775808 ≤ n) (h1 : n ≤ 9223372036854775807) : mag n ≤ 9223372036854775807 := by unfold mag; split <;> omega
theorem bitLenAux_le : ∀ (f x : Nat), Lib.bitLenAux f x ≤ f
  | 0, _ => by simp [Lib.bitLenAux]
  | f + 1, x => by
    have := bitLenAux_le f (x / 2)
    simp only [Lib.bitLenAux]; split <;> omega
theorem bitLen_le (x : Nat) : Lib.bitLen x ≤ 64 := bitLenAux_le 64 x

theorem width_any (n : Int) (w : World) (h0 : -9223372036854775808 ≤ n) (h1 : n ≤ 9223372036854775807) (hn : (n == 0) = false) : Calls Tryd.prog 62 #[.int .i64 n] w fun e w' => e = .returned (.int .i64 (wid n)) ∧ w' = w := by
  have hx := xor_sign n h0 h1
  have hm := mag_le n h0 h1
  have hl := bitLen_le (mag n)
  have he : (wid n : Int) = (Lib.bitLen (mag n) : Int) / 8 + 1 := by
    unfold wid; rw [if_neg (by simpa using hn)]; omega
  have HE : Hid ((wid n : Int) = (Lib.bitLen (mag n) : Int) / 8 + 1) := he
  clear he
  go_enter Tryd.func62, Tryd.ntmps62
  go_wp2_with (go_at_call 73; refine (len64 _ _ (by omega) (by omega)).mono ?_; rintro e w' ⟨rfl, rfl⟩)
  go_ret
  exact ⟨by rw [HE.out]; rfl, rfl⟩
end Go.Proofs.YtmdjjnjhjojimaaDoor

namespace Go.Proofs.YtmdjjnjhjojimaaDoor
open Go.RowKit Go.Maps

theorem width_all (n : Int) (w : World) (h0 : -9223372036854775808 ≤ n) (h1 : n ≤ 9223372036854775807) : Calls Tryd.prog 62 #[.int .i64 n] w fun e w' => e = .returned (.int .i64 (wid n)) ∧ w' = w := by
  by_cases hn : n = 0
  · subst hn; exact width_zero w
  · exact width_any n w h0 h1 (by simpa using hn)
theorem wid_le (n : Int) : wid n ≤ 9 := by
  have := bitLen_le (mag n)
  unfold wid; split <;> omega

/-- The bytes of a number, the lowest first. -/
def byteAt (n : Int) (j : Nat) : UInt8 := UInt8.ofNat ((n / 256 ^ j) % 256).toNat
def encTo (n : Int) (j : Nat) : List UInt8 := (List.range j).map (byteAt n)
def encInt (n : Int) : List UInt8 := UInt8.ofNat (wid n) :: encTo n (wid n)
theorem encTo_succ (n : Int) (j : Nat) : encTo n (j + 1) = encTo n j ++ [byteAt n j] := by simp [encTo, List.range_succ]
theorem encTo_length (n : Int) (j : Nat) : (encTo n j).length = j := by simp [encTo]
theorem encInt_length (n : Int) : (encInt n).length = 1 + wid n := by simp [encInt, encTo_length]; omega
theorem u8_wrap (x : Int) : IntKind.u8.wrap x = x % 256 := by simp [IntKind.wrap, IntKind.bits, IntKind.signed]
theorem bV_byteAt (n : Int) (j : Nat) : bV (byteAt n j) = .int .u8 (IntKind.u8.wrap (n / 256 ^ j)) := by
  have h : ((n / 256 ^ j) % 256).toNat < 256 := by omega
  simp only [bV, byteAt, u8_wrap, UInt8.toNat_ofNat', Nat.reducePow, Nat.mod_eq_of_lt h]
  congr 1; omega
theorem bV_wid (n : Int) : bV (UInt8.ofNat (wid n)) = .int .u8 (wid n) := by
  have := wid_le n
  simp only [bV, UInt8.toNat_ofNat', Nat.reducePow]
  congr 1; omega
theorem div_step (n : Int) (j : Nat) : n / 256 ^ j / 256 = n / 256 ^ (j + 1) := by
  rw [Int.pow_succ]; exact Int.ediv_ediv_of_nonneg (Int.pow_nonneg (by omega))
theorem div_bound (n : Int) (j : Nat) (h0 : -9223372036854775808 ≤ n) (h1 : n ≤ 9223372036854775807) : -9223372036854775808 ≤ n / 256 ^ j ∧ n / 256 ^ j ≤ 9223372036854775807 := by
  induction j with
  | zero => simp; omega
  | succ j ih => rw [← div_step]; omega

/-- Where a row's value lies behind appends: where it lay, or in a new block. -/
def Moved (w : World) (v v' : Value) : Prop := v'.ownBlock = v.ownBlock ∨ ∃ g, v'.ownBlock = some g ∧ w.heap.size ≤ g
theorem Moved.step {w : World} {v u v' : Value} {g : Nat} (h : Moved w v u) (hl : v'.ownBlock = u.ownBlock ∨ v'.ownBlock = some g) (hg : w.heap.size ≤ g) : Moved w v v' := by
  rcases hl with e | e
  · rcases h with h | ⟨b, h, hb⟩
    · exact Or.inl (e.trans h)
    · exact Or.inr ⟨b, e.trans h, hb⟩
  · exact Or.inr ⟨g, e, hg⟩
theorem Moved.trans {w w1 : World} {v u v' : Value} (h : Moved w v u) (h1 : Moved w1 u v') (hs : w.heap.size ≤ w1.heap.size) : Moved w v v' := by
  rcases h1 with e | ⟨b, e, hb⟩
  · exact h.step (Or.inl e) (Nat.le_refl _)
  · exact Or.inr ⟨b, e, Nat.le_trans hs hb⟩
theorem Keeps.grownAt {S : Nat → Prop} {a w w' : World} {row : Option Nat} (h : Keeps S a w) (hg : w.grownBy w' row) (hr : ∀ k, row = some k → S k ∨ a.heap.size ≤ k) : Keeps S a w' :=
  ⟨hg.os.trans h.os, hg.tape.trans h.tape, hg.output.trans h.output, Nat.le_trans h.size hg.size, fun i hi hs => (hg.block i (Nat.lt_of_lt_of_le hi h.size) (fun e => by
    rcases hr i e.symm with x | x
    · exact hs x
    · omega)).trans (h.block i hi hs)⟩
theorem Keeps.moved {a w w' : World} {v u : Value} (h : Keeps (fun i => v.ownBlock = some i) a w) (hg : w.grownBy w' u.ownBlock) (hm : Moved a v u) : Keeps (fun i => v.ownBlock = some i) a w' :=
  h.grownAt hg (fun k e => by
    rcases hm with x | ⟨b, x, hb⟩
    · exact Or.inl (x.symm.trans e)
    · rw [x] at e; cases e; exact Or.inr hb)

set_option maxRecDepth 100000 in
set_option maxHeartbeats 400000 in
theorem appendInt_any (v : Value) (m base : Nat) (xs : List Value) (n : Int) (w : World) (h0 : -9223372036854775808 ≤ n) (h1 : n ≤ 9223372036854775807) (hown : w.ownsRow base 5 1 v m xs) (hbase : base ≤ w.heap.size) (hm : m ≤ 1000000000) :
    Calls Tryd.prog 51 #[v, .int .i64 n] w fun e w' => ∃ v', e = .returned v' ∧ w'.ownsRow base 5 1 v' (m + (1 + wid n)) (xs ++ bytesV (encInt n)) ∧ Keeps (fun i => v.ownBlock = some i) w w' ∧ Moved w v v' ∧ v' ≠ .slice none 0 0 := by
  obtain ⟨i0, hi, hz0, hz1, hz2⟩ := info_parts info5
  have hwl := wid_le n
  go_enter Tryd.func51, Tryd.ntmps51
  go_wp2_with (first
    | (go_at_call 62; refine (width_all n _ h0 h1).mono ?_; rintro e w' ⟨rfl, hw⟩; obtain rfl := hw.symm)
    | (at_builtin; refine wpList_append_own_at _ rfl _ _ 33 rfl base 5 i0 (.int .u8 0) 1 1 Tryd.underlying33 hi hz0 hz1 hz2 rfl (by decide) v m xs rfl (hown.alloc _) ⟨w.heap.size, 0, none⟩ 1 1 [.int .u8 (wid n)] rfl rfl (cell_one_new _ _ _) ?q1 ?q2 ?q3 ?q4 ?_))
  case q1 => intro u hu; simp only [List.mem_singleton] at hu; subst hu; rfl
  case q2 => unfold maxLen; omega
  case q3 => omega
  case q4 => simp; omega
  intro v1 w1 hown1 hg1 hnil1 hloc1
  have hk1 : Keeps (fun i => v.ownBlock = some i) w w1 := ((Keeps.refl (fun i => v.ownBlock = some i) w).alloc _).grown hg1 (fun k e => e)
  have hmv1 : Moved w v v1 := by
    rcases hloc1 with h | h
    · exact Or.inl h
    · exact Or.inr ⟨_, h, by simp⟩
  have hne1 : v1 ≠ .slice none 0 0 := hnil1
  have hx1 : xs ++ [Value.int .u8 (wid n)] = xs ++ bytesV (UInt8.ofNat (wid n) :: encTo n 0) := by
    rw [show bytesV (UInt8.ofNat (wid n) :: encTo n 0) = [bV (UInt8.ofNat (wid n))] from rfl, bV_wid]
  rw [hx1] at hown1
  clear hx1 hnil1 hloc1 hg1
  go_wp2
  go_loopw [0, 1, 14] (fun s0 s1 i wr => ∃ (j : Nat), j ≤ wid n ∧ i = .int .i64 j ∧ s1 = .int .i64 (n / 256 ^ j) ∧ wr.ownsRow base 5 1 s0 (m + 1 + j) (xs ++ bytesV (UInt8.ofNat (wid n) :: encTo n j)) ∧ Keeps (fun i => v.ownBlock = some i) w wr ∧ Moved w v s0 ∧ s0 ≠ .slice none 0 0) (fun _ _ i _ => wid n - (RowKit.intOf i).toNat)
  case atStart => exact ⟨0, Nat.zero_le _, rfl, by simp, hown1, hk1, hmv1, hne1⟩
  case round =>
    obtain ⟨j, hj, rfl, rfl, hownr, hkr, hmvr, hner⟩ := hrel
    have hdb := div_bound n j h0 h1
    by_cases hlt : j < wid n
    · have hbyte := bV_byteAt n j
      have hdiv := div_step n j
      generalize hq : n / 256 ^ j = q at hdb hbyte hdiv ⊢
      clear hq
      have HB : Hid (bV (byteAt n j) = .int .u8 (IntKind.u8.wrap q)) := hbyte
      have HD : Hid (q / 256 = n / 256 ^ (j + 1)) := hdiv
      clear hbyte hdiv
      go_wp2_with (at_builtin; refine wpList_append_own_at _ rfl _ _ 33 rfl base 5 i0 (.int .u8 0) 1 1 Tryd.underlying33 hi hz0 hz1 hz2 rfl (by decide) u0 (m + 1 + j) _ rfl (hownr.alloc _) ⟨wr.heap.size, 0, none⟩ 1 1 [.int .u8 (IntKind.u8.wrap q)] rfl rfl (cell_one_new _ _ _) ?q1 ?q2 ?q3 ?q4 ?_)
      case q1 => intro u hu; simp only [List.mem_singleton] at hu; subst hu; rfl
      case q2 => unfold maxLen; omega
      case q3 => omega
      case q4 => have := hkr.size; simp; omega
      intro v2 w2 hown2 hg2 hnil2 hloc2
      have hsz := hkr.size
      have hk2 := (hkr.alloc _).moved hg2 hmvr
      have hm2 : Moved w v v2 := hmvr.step hloc2 (by omega)
      have HO : Hid (w2.ownsRow base 5 1 v2 (m + 1 + (j + 1)) (xs ++ bytesV (UInt8.ofNat (wid n) :: encTo n (j + 1)))) := by
        have e : bytesV (UInt8.ofNat (wid n) :: encTo n (j + 1)) = bytesV (UInt8.ofNat (wid n) :: encTo n j) ++ [Value.int IntKind.u8 (IntKind.u8.wrap q)] := by
          rw [encTo_succ, ← HB.out]; simp [bytesV]
        rw [e]; exact hown2
      clear hown2 hg2 hloc2 hownr
      go_wp2
      go_roundw
      case rel => exact ⟨j + 1, by omega, by go_num, by rw [← HD.out], HO.out, hk2, hm2, hnil2⟩
      case measure => simp [RowKit.intOf]; omega
    · go_wp2
      go_ret
      have : j = wid n := by omega
      subst this
      exact ⟨_, rfl, by rw [Nat.add_assoc] at hownr; exact hownr, hkr, hmvr, hner⟩
end Go.Proofs.YtmdjjnjhjojimaaDoor

namespace Go.Proofs.YtmdjjnjhjojimaaDoor
open Go.RowKit Go.Maps

theorem appendInt_shape (a : Option Addr) (m c base : Nat) (xs : List Value) (n : Int) (w : World) (h0 : -9223372036854775808 ≤ n) (h1 : n ≤ 9223372036854775807) (hown : w.ownsRow base 5 1 (.slice a m c) m xs) (hbase : base ≤ w.heap.size) (hm : m ≤ 1000000000) :
    Calls Tryd.prog 51 #[.slice a m c, .int .i64 n] w fun e w' => ∃ g c', e = .returned (.slice (some ⟨g, 0, none⟩) (m + (1 + wid n)) c') ∧ w'.ownsRow base 5 1 (.slice (some ⟨g, 0, none⟩) (m + (1 + wid n)) c') (m + (1 + wid n)) (xs ++ bytesV (encInt n)) ∧
      Keeps (fun i => (Value.slice a m c).ownBlock = some i) w w' ∧ Moved w (.slice a m c) (.slice (some ⟨g, 0, none⟩) (m + (1 + wid n)) c') := by
  refine (appendInt_any (.slice a m c) m base xs n w h0 h1 hown hbase hm).mono ?_
  rintro e w' ⟨v', rfl, hrow, hk, hmv, hne⟩
  have hrow' := hrow
  obtain ⟨hl, ⟨rfl, _⟩ | ⟨g, c', cur, rfl, _⟩⟩ := hrow
  · exact absurd rfl hne
  · exact ⟨g, c', rfl, hrow', hk, hmv⟩

/-- A Writer in memory: its block wb, the bytes s that it holds. -/
structure WrAt (w : World) (wb base : Nat) (s : List UInt8) (a : Option Addr) (c : Nat) : Prop where
  c0 : w.cell? ⟨wb, 0, none⟩ = some (.slice a s.length c)
  f0 : w.frozen? ⟨wb, 0, none⟩ = false
  row : w.ownsRow base 5 1 (.slice a s.length c) s.length (bytesV s)
  bs : base ≤ w.heap.size
  ne : (Value.slice a s.length c).ownBlock ≠ some wb

theorem WrAt.lt {w : World} {wb base : Nat} {s : List UInt8} {a : Option Addr} {c : Nat} (h : WrAt w wb base s a c) : wb < w.heap.size := World.block_lt_of_cell? w _ h.c0

/-- What a Writer's calls may turn. -/
abbrev WrMay (wb : Nat) (v : Value) : Nat → Prop := fun i => i = wb ∨ v.ownBlock = some i

/-- A new value is laid into the Writer's field. -/
theorem WrAt.stored {w w1 : World} {wb base g c' l : Nat} {s t : List UInt8} {a : Option Addr} {c : Nat} (h : WrAt w wb base s a c) (hl : l = (s ++ t).length) (hrow : w1.ownsRow base 5 1 (.slice (some ⟨g, 0, none⟩) l c') l (bytesV (s ++ t)))
    (hk : Keeps (fun i => (Value.slice a s.length c).ownBlock = some i) w w1) (hmv : Moved w (.slice a s.length c) (.slice (some ⟨g, 0, none⟩) l c')) :
    WrAt (w1.setCell ⟨wb, 0, none⟩ (.slice (some ⟨g, 0, none⟩) l c')) wb base (s ++ t) (some ⟨g, 0, none⟩) c' ∧ Keeps (WrMay wb (.slice a s.length c)) w (w1.setCell ⟨wb, 0, none⟩ (.slice (some ⟨g, 0, none⟩) l c')) := by
  subst hl
  have hlt := h.lt
  have hgw : g ≠ wb := by
    rcases hmv with e | ⟨b, e, hb⟩
    · intro x; subst x; exact h.ne (by rw [← e]; rfl)
    · have e' : g = b := by simpa [Value.ownBlock] using e
      omega
  have c1 : w1.cell? ⟨wb, 0, none⟩ = some (.slice a s.length c) := (hk.cell (p := ⟨wb, 0, none⟩) hlt h.ne).trans h.c0
  have f1 : w1.frozen? ⟨wb, 0, none⟩ = false := (hk.frozen (p := ⟨wb, 0, none⟩) hlt h.ne).trans h.f0
  refine ⟨{ c0 := by rw [World.cell?_setCell_same _ _ _ c1], f0 := by rw [World.frozen?_setCell]; exact f1, row := ?_, bs := ?_, ne := by simp [Value.ownBlock]; exact hgw }, ?_⟩
  · obtain ⟨hl, ⟨e, _⟩ | ⟨g', cap, cur, e, r1, r2, r3⟩⟩ := hrow
    · cases e
    · refine ⟨hl, Or.inr ⟨g', cap, cur, e, r1, ?_, r3⟩⟩
      cases e
      rw [Below.heap_setCell _ _ _ _ hgw]; exact r2
  · have := hk.size; have := h.bs; simp [World.setCell]; omega
  · have hk' : Keeps (WrMay wb (.slice a s.length c)) w w1 := hk.mono (fun i e => Or.inr e)
    exact hk'.setCell (S := WrMay wb (.slice a s.length c)) (p := ⟨wb, 0, none⟩) (Or.inl rfl) _

theorem flat_len : ∀ (l : List Int) (j : Nat), l.length ≤ j → (l.flatMap encInt).length ≤ 10 * j
  | [], _, _ => by simp
  | x :: r, j, h => by
    have h1 := flat_len r (j - 1) (by simp at h; omega)
    have h2 := wid_le x
    rw [List.flatMap_cons, List.length_append, encInt_length]
    simp at h; omega
theorem wrKeeps {w wr w2 : World} {wb : Nat} {v u : Value} (h : Keeps (WrMay wb v) w wr) (hm : Moved w v u) (h2 : Keeps (WrMay wb u) wr w2) : Keeps (WrMay wb v) w w2 :=
  ⟨h2.os.trans h.os, h2.tape.trans h.tape, h2.output.trans h.output, Nat.le_trans h.size h2.size, fun i hi hs => (h2.block i (Nat.lt_of_lt_of_le hi h.size) (fun e => by
    rcases e with e | e
    · exact hs (Or.inl e)
    · rcases hm with x | ⟨b, x, hb⟩
      · exact hs (Or.inr (x.symm.trans e))
      · rw [x] at e; cases e; omega)).trans (h.block i hi hs)⟩

theorem int_nil (ns : Value) (w : World) : Calls Tryd.prog 26 #[.pointer none, ns] w fun e w' => e = .returned (.tuple #[]) ∧ w' = w := by
  go_enter Tryd.func26, Tryd.ntmps26
  go_wp2
  first | go_end0 | refine bodyPost_ret (results_none rfl _ _ _) rfl ?_
  exact ⟨rfl, rfl⟩

set_option maxRecDepth 100000 in
set_option maxHeartbeats 400000 in
theorem int_any {w : World} {wb base : Nat} {s : List UInt8} {a : Option Addr} {c : Nat} (h : WrAt w wb base s a c) (nb no nc : Nat) (ns : List Int) (hns : w.rangeAt nb no (ns.map (Value.int .i64))) (hn1 : nb ≠ wb) (hn2 : (Value.slice a s.length c).ownBlock ≠ some nb)
    (hwf : ∀ x ∈ ns, -9223372036854775808 ≤ x ∧ x ≤ 9223372036854775807) (hm : s.length + 10 * ns.length ≤ 1000000000) :
    Calls Tryd.prog 26 #[.pointer (some ⟨wb, 0, none⟩), .slice (some ⟨nb, no, none⟩) ns.length nc] w fun e w' => ∃ a' c', e = .returned (.tuple #[]) ∧ WrAt w' wb base (s ++ ns.flatMap encInt) a' c' ∧ Keeps (WrMay wb (.slice a s.length c)) w w' ∧ Moved w (.slice a s.length c) (.slice a' (s ++ ns.flatMap encInt).length c') := by
  go_enter Tryd.func26, Tryd.ntmps26
  go_wp2
  go_loopw [10] (fun i wr => ∃ (j : Nat) (a' : Option Addr) (c' : Nat), j ≤ ns.length ∧ i = .int .i64 j ∧ WrAt wr wb base (s ++ (ns.take j).flatMap encInt) a' c' ∧ Keeps (WrMay wb (.slice a s.length c)) w wr ∧ Moved w (.slice a s.length c) (.slice a' (s ++ (ns.take j).flatMap encInt).length c')) (fun i _ => ns.length - (RowKit.intOf i).toNat)
  case atStart => exact ⟨0, a, c, Nat.zero_le _, rfl, by simpa using h, Keeps.refl _ _, Or.inl (by simp)⟩
  case round =>
    obtain ⟨j, a', c', hj, rfl, hwr, hkr, hmr⟩ := hrel
    by_cases hlt : j < ns.length
    · have hmem : ns[j] ∈ ns := List.getElem_mem hlt
      obtain ⟨x, hx⟩ : ∃ x, ns[j] = x := ⟨_, rfl⟩
      have hxb := hwf _ hmem
      rw [hx] at hxb
      have hcell : wr.cell? ⟨nb, no + j, none⟩ = some (.int .i64 x) := by
        have e1 := hns j (.int .i64 x) (by rw [List.getElem?_map, List.getElem?_eq_getElem hlt, hx]; rfl)
        have e2 := hkr.cell (p := ⟨nb, no + j, none⟩) (World.block_lt_of_cell? _ _ e1) (by rintro (e | e); exact hn1 e; exact hn2 e)
        exact e2.trans e1
      have HT : Hid ((ns.take (j + 1)).flatMap encInt = (ns.take j).flatMap encInt ++ encInt x) := by
        show (ns.take (j + 1)).flatMap encInt = _
        rw [List.take_succ_eq_append_getElem hlt, List.flatMap_append, hx]; simp
      have hlen : ((ns.take j).flatMap encInt).length ≤ 10 * j := flat_len _ _ (by rw [List.length_take]; omega)
      have HT' : Hid (s ++ (ns.take (j + 1)).flatMap encInt = (s ++ (ns.take j).flatMap encInt) ++ encInt x) := by
        show s ++ (ns.take (j + 1)).flatMap encInt = _
        rw [HT.out, List.append_assoc]
      have hsl : (s ++ (ns.take j).flatMap encInt).length ≤ 1000000000 := by rw [List.length_append]; omega
      generalize hS : s ++ (ns.take j).flatMap encInt = sj at hwr hmr HT' hsl
      clear hS HT hlen hx hmem hns hwf
      have c0 := hwr.c0
      have hbr : base ≤ wr.heap.size := hwr.bs
      have hsz := hkr.size
      go_wp2_with fail
      refine (appendInt_shape a' sj.length c' base _ x wr hxb.1 hxb.2 hwr.row hbr hsl).mono ?_
      rintro e w1 ⟨g, c1, rfl, hrow1, hk1, hm1⟩
      have HL : Hid (sj.length + (1 + wid x) = (sj ++ encInt x).length) := by show _ = _; rw [List.length_append, encInt_length]
      have hst := hwr.stored HL.out (by rw [bytesV_append]; exact hrow1) hk1 hm1
      have cc : w1.cell? ⟨wb, 0, none⟩ = some (.slice a' sj.length c') := (hk1.cell (p := ⟨wb, 0, none⟩) hwr.lt hwr.ne).trans hwr.c0
      have cf : w1.frozen? ⟨wb, 0, none⟩ = false := (hk1.frozen (p := ⟨wb, 0, none⟩) hwr.lt hwr.ne).trans hwr.f0
      have HST := hst
      clear hst c0
      go_wp2
      go_roundw
      case rel => exact ⟨j + 1, some ⟨g, 0, none⟩, c1, by omega, by go_num, by rw [HT'.out]; exact HST.1, wrKeeps hkr hmr HST.2, by rw [HT'.out, ← HL.out]; exact hmr.trans hm1 hsz⟩
      case measure => simp [RowKit.intOf]; omega
    · go_wp2
      have : j = ns.length := by omega
      subst this
      go_end0
      rw [List.take_length] at hwr hmr
      exact ⟨a', c', rfl, hwr, hkr, hmr⟩
end Go.Proofs.YtmdjjnjhjojimaaDoor

namespace Go.Proofs.YtmdjjnjhjojimaaDoor
open Go.RowKit Go.Maps

theorem strCells_eq (st : ByteArray) : Lib.strCells st = bytesV st.data.toList := rfl

/-- 'append(b, s...)', the new value's shape written out. -/
theorem wpList_append_str {w : World} {ops : Array Oper} {rest : List Oper} {o : Oper} {a : Act} {Q : Exit → Act → World → Prop} (hgd : o.guard = none) (sl x : Operand) (ho : o.op = .call { callee := .builtin .append, args := #[sl, x], argTypes := #[33, 9] })
    (base : Nat) (b n c : Nat) (xs : List Value) (hs : a.eval sl = .slice (some ⟨b, 0, none⟩) n c) (hown : w.ownsRow base 5 1 (.slice (some ⟨b, 0, none⟩) n c) n xs) (st : ByteArray) (hx : a.eval x = .string st)
    (h63 : n + st.size ≤ 100000000000) (hbase : base ≤ w.heap.size)
    (h : ∀ g c' w', w'.ownsRow base 5 1 (.slice (some ⟨g, 0, none⟩) (n + st.size) c') (n + st.size) (xs ++ bytesV st.data.toList) → w.grownBy w' (some b) → wpList Tryd.prog ops Q rest (a.put o.dst (.slice (some ⟨g, 0, none⟩) (n + st.size) c')) w') : wpList Tryd.prog ops Q (o :: rest) a w := by
  obtain ⟨i0, hi, hz0, hz1, hz2⟩ := info_parts info5
  refine Lib.wpList_append_own_string w hgd sl x 33 9 ho base 5 i0 Tryd.underlying33 Tryd.underlying9 hi hz0 hz1 hz2 _ n xs hs hown st hx (by unfold maxLen; omega) (by omega) hbase ?_
  intro v' w' hrow hg hnil
  have hrow' := hrow
  obtain ⟨hl, ⟨rfl, _⟩ | ⟨g, c', cur, rfl, _⟩⟩ := hrow
  · have := (hnil.1 rfl).1; cases this
  · exact h g c' w' hrow' hg

theorem text_nil (st : Value) (w : World) : Calls Tryd.prog 28 #[.pointer none, st] w fun e w' => e = .returned (.tuple #[]) ∧ w' = w := by
  go_enter Tryd.func28, Tryd.ntmps28
  go_wp2
  first | go_end0 | refine bodyPost_ret (results_none rfl _ _ _) rfl ?_
  exact ⟨rfl, rfl⟩

set_option maxRecDepth 100000 in
set_option maxHeartbeats 400000 in
theorem text_any {w : World} {wb base : Nat} {s : List UInt8} {a : Option Addr} {c : Nat} (h : WrAt w wb base s a c) (hwb : wb < base) (st : ByteArray) (hm : s.length + 10 + st.size ≤ 1000000000) :
    Calls Tryd.prog 28 #[.pointer (some ⟨wb, 0, none⟩), .string st] w fun e w' => ∃ a' c', e = .returned (.tuple #[]) ∧ WrAt w' wb base (s ++ (encInt st.size ++ st.data.toList)) a' c' ∧ Keeps (fun i => i = wb ∨ base ≤ i) w w' := by
  have c0 := h.c0
  have hwl := wid_le st.size
  go_enter Tryd.func28, Tryd.ntmps28
  go_wp2_with fail
  refine (appendInt_shape a s.length c base _ st.size w (by omega) (by omega) h.row h.bs (by omega)).mono ?_
  rintro e w1 ⟨g, c1, rfl, hrow1, hk1, hm1⟩
  have HL : Hid (s.length + (1 + wid st.size) = (s ++ encInt st.size).length) := by show _ = _; rw [List.length_append, encInt_length]
  have hst := h.stored HL.out (by rw [bytesV_append]; exact hrow1) hk1 hm1
  have cc : w1.cell? ⟨wb, 0, none⟩ = some (.slice a s.length c) := (hk1.cell (p := ⟨wb, 0, none⟩) h.lt h.ne).trans h.c0
  have cf : w1.frozen? ⟨wb, 0, none⟩ = false := (hk1.frozen (p := ⟨wb, 0, none⟩) h.lt h.ne).trans h.f0
  obtain ⟨h2, hk2⟩ := hst
  clear c0
  have hrow2 := h2.row
  rw [← HL.out] at hrow2
  have hgw : g ≠ wb := fun e => h2.ne (by rw [e]; rfl)
  have HR : Hid ((w1.setCell ⟨wb, 0, none⟩ (.slice (some ⟨g, 0, none⟩) (s.length + (1 + wid st.size)) c1)).ownsRow base 5 1 (.slice (some ⟨g, 0, none⟩) (s.length + (1 + wid st.size)) c1) (s.length + (1 + wid st.size)) (bytesV (s ++ encInt st.size))) := hrow2
  clear hrow2
  go_wp2_with (at_builtin; refine wpList_append_str rfl _ _ rfl base g (s.length + (1 + wid st.size)) c1 _ rfl HR.out st rfl ?b1 ?b2 ?_)
  case b1 => omega
  case b2 => exact h2.bs
  intro g2 c2 w2 hrow3 hg3
  have hk3 : Keeps (fun i => i = wb ∨ base ≤ i) w w2 := by
    have hb1 : base ≤ g := by
      obtain ⟨_, ⟨e, _⟩ | ⟨g', cap, cur, e, r1, _⟩⟩ := HR.out
      · cases e
      · cases e; exact r1
    refine (hk2.mono ?_).grownAt hg3 (fun k e => by cases e; exact Or.inl (Or.inr hb1))
    rintro i (e | e)
    · exact Or.inl e
    · refine Or.inr ?_
      obtain ⟨_, ⟨e', _⟩ | ⟨g', cap, cur, e', r1, _⟩⟩ := h.row
      · injection e' with ea _ _; subst ea; simp [Value.ownBlock] at e
      · cases e'; cases e; exact r1
  have hb2 : base ≤ g2 := by
    obtain ⟨_, ⟨e, _⟩ | ⟨g', cap, cur, e, r1, _⟩⟩ := hrow3
    · cases e
    · cases e; exact r1
  have hlt2 : wb < (w1.setCell ⟨wb, 0, none⟩ (.slice (some ⟨g, 0, none⟩) (s.length + (1 + wid st.size)) c1)).heap.size := h2.lt
  have d1 : w2.cell? ⟨wb, 0, none⟩ = some (.slice (some ⟨g, 0, none⟩) (s.length + (1 + wid st.size)) c1) := by
    rw [World.cell?_of_block (w := w1.setCell ⟨wb, 0, none⟩ (.slice (some ⟨g, 0, none⟩) (s.length + (1 + wid st.size)) c1)) (hg3.block wb hlt2 (by simp; exact fun e => hgw e.symm)), h2.c0, ← HL.out]
  have d2 : w2.frozen? ⟨wb, 0, none⟩ = false := by
    rw [World.frozen?_of_block (w := w1.setCell ⟨wb, 0, none⟩ (.slice (some ⟨g, 0, none⟩) (s.length + (1 + wid st.size)) c1)) (hg3.block wb hlt2 (by simp; exact fun e => hgw e.symm)), h2.f0]
  have HL2 : Hid (s.length + (1 + wid st.size) + st.size = (s ++ (encInt st.size ++ st.data.toList)).length) := by
    show _ = _
    rw [← List.append_assoc, List.length_append, ← HL.out]; rfl
  go_wp2
  go_end0
  refine ⟨some ⟨g2, 0, none⟩, c2, rfl, ?_, hk3.setCell (S := fun i => i = wb ∨ base ≤ i) (p := ⟨wb, 0, none⟩) (Or.inl rfl) _⟩
  have hg2w : g2 ≠ wb := by omega
  have hh := h.bs
  have hsz := hk3.size
  refine { c0 := ?_, f0 := by rw [World.frozen?_setCell]; exact d2, row := ?_, bs := by simp [World.setCell]; omega, ne := by simp [Value.ownBlock]; exact hg2w }
  · rw [World.cell?_setCell_same _ _ _ d1, ← HL2.out]
  · rw [← HL2.out, ← List.append_assoc, bytesV_append]
    obtain ⟨hl, ⟨e, _⟩ | ⟨g', cap, cur, e, r1, r2, r3⟩⟩ := hrow3
    · cases e
    · refine ⟨hl, Or.inr ⟨g', cap, cur, e, r1, ?_, r3⟩⟩
      cases e
      rw [Below.heap_setCell _ _ _ _ hg2w]; exact r2
end Go.Proofs.YtmdjjnjhjojimaaDoor

namespace Go.Proofs.YtmdjjnjhjojimaaDoor
open Go.RowKit Go.Maps

/-- The unsigned number of bytes, the lowest first. -/
def uB : List UInt8 → Nat
  | [] => 0
  | b :: r => b.toNat + 256 * uB r
theorem uB_lt : ∀ s : List UInt8, uB s < 256 ^ s.length
  | [] => by simp [uB]
  | b :: r => by
    have := uB_lt r
    have hb := b.toNat_lt
    simp only [uB, List.length_cons, Nat.pow_succ]
    omega
theorem uB_snoc : ∀ (s : List UInt8) (b : UInt8), uB (s ++ [b]) = uB s + b.toNat * 256 ^ s.length
  | [], b => by simp [uB]
  | c :: r, b => by
    have := uB_snoc r b
    simp only [List.cons_append, uB, this, List.length_cons, Nat.pow_succ, Nat.mul_add]
    rw [show b.toNat * (256 ^ r.length * 256) = 256 * (b.toNat * 256 ^ r.length) from by rw [Nat.mul_comm (256 ^ r.length) 256, Nat.mul_left_comm]]
    omega

theorem pow_256 (j : Nat) : 256 ^ j = 2 ^ (8 * j) := by rw [show (256 : Nat) = 2 ^ 8 from rfl, ← Nat.pow_mul]
/-- 'u | uint64(x) << (8*j)', u below 256^j. -/
theorem or_byte (u x j : Nat) (hu : u < 256 ^ j) (hx : x < 256) (hj : j < 8) : bits BinOp.or IntKind.u64 (u : Int) (IntKind.u64.wrap ((x : Int) * 2 ^ (8 * j))) = ((u + x * 256 ^ j : Nat) : Int) := by
  have hp : 2 ^ (8 * j) ≤ 2 ^ 56 := Nat.pow_le_pow_right (by omega) (by omega)
  have hxl : x * 2 ^ (8 * j) < 18446744073709551616 := by
    have h1 : x * 2 ^ (8 * j) ≤ 255 * 2 ^ 56 := Nat.mul_le_mul (by omega) hp
    have h2 : 255 * 2 ^ 56 < 18446744073709551616 := by decide
    omega
  rw [pow_256] at hu ⊢
  have hul : u < 18446744073709551616 := by
    have h2 : 2 ^ 56 < 18446744073709551616 := by decide
    omega
  have e1 : (x : Int) * 2 ^ (8 * j) = ((x * 2 ^ (8 * j) : Nat) : Int) := by push_cast; rfl
  rw [e1]
  have hw : IntKind.u64.wrap ((x * 2 ^ (8 * j) : Nat) : Int) = ((x * 2 ^ (8 * j) : Nat) : Int) := by
    have : ∀ y : Int, IntKind.u64.wrap y = y % 18446744073709551616 := fun y => by simp [IntKind.wrap, IntKind.bits, IntKind.signed]
    rw [this]; omega
  rw [hw, u64_or_nat _ _ hul hxl]
  congr 1
  have h3 := Nat.two_pow_add_eq_or_of_lt hu x
  rw [Nat.mul_comm x, Nat.or_comm, ← h3]
  omega
/-- The number that bytes make, the sign in the last one. -/
def joinB (s : List UInt8) : Int := wrap64 (IntKind.u64.wrap ((uB s : Int) * 2 ^ (8 * (8 - s.length)))) / 2 ^ (8 * (8 - s.length))

set_option maxRecDepth 100000 in
set_option maxHeartbeats 400000 in
theorem join_any (g o c : Nat) (s : List UInt8) (w : World) (hs : s.length ≤ 8) (hr : w.rangeAt g o (bytesV s)) :
    Calls Tryd.prog 63 #[.slice (some ⟨g, o, none⟩) s.length c] w fun e w' => e = .returned (.int .i64 (joinB s)) ∧ w' = w := by
  go_enter Tryd.func63, Tryd.ntmps63
  go_wp2
  go_loop [3, 9] (fun u i => ∃ j : Nat, j ≤ s.length ∧ i = .int .i64 j ∧ u = .int .u64 (uB (s.take j))) (fun _ i => s.length - (RowKit.intOf i).toNat)
  case atStart => exact ⟨0, Nat.zero_le _, rfl, rfl⟩
  case round =>
    obtain ⟨j, hj, rfl, rfl⟩ := hrel
    by_cases hlt : j < s.length
    · have hcell : w.cell? ⟨g, o + j, none⟩ = some (.int .u8 s[j].toNat) := hr j _ (by simp [bytesV, List.getElem?_eq_getElem hlt, bV])
      have hx := s[j].toNat_lt
      have hu := uB_lt (s.take j)
      rw [List.length_take, Nat.min_eq_left hj] at hu
      have HS : Hid (uB (s.take (j + 1)) = uB (s.take j) + s[j].toNat * 256 ^ j) := by
        show uB (s.take (j + 1)) = _
        rw [List.take_succ_eq_append_getElem hlt, uB_snoc, List.length_take, Nat.min_eq_left hj]
      have HO : Hid (bits BinOp.or IntKind.u64 (uB (s.take j) : Int) (IntKind.u64.wrap ((s[j].toNat : Int) * 2 ^ (8 * j))) = ((uB (s.take j) + s[j].toNat * 256 ^ j : Nat) : Int)) := or_byte _ _ _ hu hx (by omega)
      clear hu
      generalize s[j].toNat = x at hcell hx HS HO
      generalize uB (s.take j) = u at HS HO ⊢
      go_wp2
      go_round
      case rel => exact ⟨j + 1, by omega, by go_num, by rw [HO.out, HS.out]⟩
      case measure => simp [RowKit.intOf]; omega
    · go_wp2
      have : j = s.length := by omega
      subst this
      go_ret
      exact ⟨by rw [List.take_length]; rfl, rfl⟩
theorem join_nil (c : Nat) (w : World) : Calls Tryd.prog 63 #[.slice none 0 c] w fun e w' => e = .returned (.int .i64 0) ∧ w' = w := by
  go_enter Tryd.func63, Tryd.ntmps63
  go_wp2
  refine wp_loop_rounds 1 ?_
  rw [rounds_succ]
  go_wp2
  go_ret
  exact ⟨rfl, rfl⟩
end Go.Proofs.YtmdjjnjhjojimaaDoor
