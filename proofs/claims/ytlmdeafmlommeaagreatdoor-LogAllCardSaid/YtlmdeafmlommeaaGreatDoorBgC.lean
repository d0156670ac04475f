import Derived.Test.YtlmdeafmlommeaaGreatDoorSnA
import Derived.Test.YtlmdeafmlommeaaGreatDoorBegB
import Derived.Lib.SlBytesConst
namespace Go.Proofs.YtlmdeafmlommeaaGreatDoor
open Go.RowKit Go.Maps

theorem begun1_true (w : World) (hg : w.cell? ⟨0, 0, none⟩ = some errType) : Calls Tryz.prog 34 #[] w fun e w' => e = .returned (.bool true) ∧ Below w.heap.size w w' := by
  go_enter Tryz.func34, Tryz.ntmps34
  go_wp2_with fail
  refine (begun_true _ hg).mono ?_
  rintro e w' ⟨rfl, hb⟩
  go_wp2_with fail
  go_ret
  exact ⟨rfl, hb⟩
theorem good_told {B : List UInt8} {D : DataW Unit} {left : Int} {down : Bool} {A : List Int} (h : Good B D left down A) : told B = some A := by
  obtain ⟨at_, t, e⟩ := h.new
  unfold told
  rw [e]
  rfl
theorem logon_new {n : Nat} {B : List UInt8} (hn : 64 ≤ n) (hl : B.length = n * 64) (ht : told B = some [0, 0, 0, 0]) : LogOn n B 0 [] 0 0 :=
  ⟨hl, ht, by unfold ringN; omega, Nat.zero_le _, rfl, fun r hr => by cases hr⟩
theorem area_ring {n : Nat} {a c : Nat} (ha : n / 2 ≤ a) (hn : 64 ≤ n) (b j : Nat) : ¬ areaP a c (128 + (b + j) % ringN n) := by
  rintro ⟨h1, _⟩
  have hr : 0 < ringN n := by unfold ringN; omega
  have hm := Nat.mod_lt (b + j) hr
  have he : ringN n = (n / 2 - 2) * 64 := rfl
  generalize (b + j) % ringN n = q at h1 hm
  omega
theorem LogOn.beside {n : Nat} {B B1 : List UInt8} {a : Nat} {R : List (List UInt8)} {x y : Int} (h : LogOn n B a R x y) (hn : 64 ≤ n) {b c : Nat} (hb : n / 2 ≤ b) (hA : Alike (areaP b c) B B1) : LogOn n B1 a R x y :=
  h.alike hA (fun p hp => by have := hp.1; omega) (fun j _ => area_ring hb hn a j)
/-- A text that was laid whole. -/
theorem snap_text {n : Nat} {B B1 B' : List UInt8} {D : DataW Unit} {a : Nat} {s : List UInt8} (h : SnW B D a s s.length B1) (hA : Alike lowP B1 B') (hB : B'.length = n * 64) (ha : 2 ≤ a) (hfit : a + secsN s.length ≤ n) : cutB B' a s.length = s := by
  refine list_ext_getD (cutB_len hB hfit) (fun k hk => ?_)
  have e : (cutB B' a s.length).getD k 0 = B'.getD (64 * a + k) 0 := by
    unfold cutB
    simp only [List.getD, List.getElem?_take, List.getElem?_drop, if_pos hk]
  rw [e, hA.2 _ (by unfold lowP; omega), h.wr k hk]
theorem ints_new (w : World) (A : List Int) (hf : AllFit A) : IntsAt (w.alloc (.cells (A.map (Value.int .i64)).toArray 2)) (w.alloc (.cells (A.map (Value.int .i64)).toArray 2)).heap.size (some ⟨w.heap.size, 0, none⟩) A.length A := by
  refine ⟨rfl, hf, Or.inr ⟨w.heap.size, 0, rfl, by simp, ?_⟩⟩
  intro j v hv
  rw [cell_of_row _ _ (0 + j) _ 2 (0, 0) (heap_alloc_last w _)]
  simpa using hv
/-- An Append on a device that nothing cuts off. -/
theorem append_calm {n : Nat} (hn : 64 ≤ n) (hn2 : n ≤ 4096) {B : List UInt8} {a : Nat} {R : List (List UInt8)} {x y : Int} (h : LogOn n B a R x y) {s : List UInt8} (hs : 1 ≤ s.length ∧ s.length ≤ 1000) (hz : (encR R).length + (s.length + 2) ≤ ringN n) {left' : Int} {down' : Bool} {code : Int} {B' : List UInt8} {D' : DataW Unit} (hO : ApO n B 0 false a (encR R).length x y s code B' D' left' down') : code = 0 ∧ D' = .map [] ∧ left' = 0 ∧ down' = false ∧ LogOn n B' a (R ++ [s]) x y := by
  have hap := append_lasts hn hn2 h hs hz hO
  rcases hap with ⟨h1, h2, h3⟩ | ⟨_, h, _⟩
  · rcases hO with ⟨e, _⟩ | ⟨B1, left1, down1, hW, hq, hS⟩
    · rw [h1] at e; cases e
    · obtain ⟨rfl, rfl⟩ := hq rfl rfl
      have hf : AllFit [(a : Int), ((((encR R).length + (s.length + 2) : Nat)) : Int), x, y] := fit4 hn2 h.al hz h.fit2
      have hg := (save_good (hW.al.1.trans h.len) (by omega) (by simp) hf hS).2
      exact ⟨h1, h2, hg.l, hg.dn, h3⟩
  · exact (h rfl rfl).elim
/-- A Put on a device that nothing cuts off. -/
theorem put_calm {n : Nat} (hn : 64 ≤ n) (hn2 : n ≤ 4096) {B : List UInt8} {a : Nat} {R : List (List UInt8)} {x y : Int} (h : LogOn n B a R x y) {s : List UInt8} (hs : s.length ≤ n / 4 * 64) {left1 left' : Int} {down1 down' : Bool} {code : Int} {B1 B' : List UInt8} {D' : DataW Unit} (hW : SnW B (.map []) (areaAt n (otherA x)) s s.length B1) (hl : left1 = 0) (hd : down1 = false) (hS : SaveO B1 (.map []) left1 down1 [(((a + (encR R).length) % ringN n : Nat) : Int), 0, otherA x, (s.length : Int)] code B' D' left' down') : code = 0 ∧ D' = .map [] ∧ left' = 0 ∧ down' = false ∧ LogOn n B' ((a + (encR R).length) % ringN n) [] (otherA x) (s.length : Int) ∧ cutB B' (areaAt n (otherA x)) s.length = s := by
  subst hl hd
  have hA : n / 2 ≤ areaAt n (otherA x) := by unfold areaAt; omega
  have h1 := h.beside hn hA hW.al
  have hof : AllFit [otherA x, (s.length : Int)] := fun v hv => by
    simp only [List.mem_cons, List.not_mem_nil, or_false] at hv
    unfold otherA at hv
    rcases hv with rfl | rfl
    · split <;> omega
    · omega
  have hq : (a + (encR R).length) % ringN n < ringN n := Nat.mod_lt _ (by have := h.al; omega)
  have hf : AllFit [(((a + (encR R).length) % ringN n : Nat) : Int), 0, otherA x, (s.length : Int)] := fit4 (z := 0) hn2 hq (by omega) hof
  obtain ⟨rfl, hg⟩ := save_good h1.len (by omega) (by simp) hf hS
  have hlow := save_low (by omega) h1.len (by simp) hf hS
  rcases reset_lasts hn hn2 h1 hof hS with ⟨_, r2, r3⟩ | ⟨e, _⟩
  · exact ⟨rfl, r2, hg.l, hg.dn, r3, snap_text hW hlow.1 r3.len (by omega) (areaAt_fit hs)⟩
  · cases e
set_option maxRecDepth 100000 in
theorem append_calm_at {w : World} {lb db nb mb n cap sb : Nat} {B : List UInt8} {k : Nat} {a' z' x' y' : Int} (h : LgAt w lb db n sb false a' z' x' y') (hd : DevAt w db nb mb n cap B k (.map []) 0 false) (hS : SlAt w sb db false) (hne : sb ≠ db ∧ sb ≠ nb ∧ sb ≠ mb) (hlne : lb ≠ db ∧ lb ≠ nb ∧ lb ≠ mb ∧ lb ≠ sb) (hk : k ≤ 1000) {a : Nat} {R : List (List UInt8)} {x y : Int} (hlog : LogOn n B a R x y) (g o bc : Nat) (s : List UInt8) (m : Nat) (hm : s.length = m) (hs0 : 1 ≤ m) (hs1 : m ≤ 1000) (hz : (encR R).length + (m + 2) ≤ ringN n) (hsrc : w.rangeAt g o (bytesV s)) : Calls Tryz.prog 18 #[.pointer (some ⟨lb, 0, none⟩), .slice (some ⟨g, o, none⟩) m bc] w fun e w' => ∃ mb' k' B', e = .returned (.int .i64 0) ∧ DevAt w' db nb mb' n cap B' k' (.map []) 0 false ∧ k' ≤ 1 ∧ (mb' = mb ∨ w.heap.size ≤ mb') ∧ Keeps (fun i => i = db ∨ i = nb ∨ i = mb ∨ i = sb ∨ i = lb) w w' ∧ SlAt w' sb db false ∧ LgAt w' lb db n sb false a' z' x' y' ∧ LogOn n B' a (R ++ [s]) x y := by
  subst hm
  have hn1 := hd.n1
  have hn2 := hd.n2
  refine (append_at h hd hS hne hlne hk a (encR R).length x y hlog.tl hlog.al hlog.fit2 g o bc s hs0 hs1 hz hsrc).mono ?_
  rintro e w8 ⟨code8, mb8, k8, B8, D8, left8, down8, rfl, hd8, hk8, hk8', hm8, hK8, hO8, ⟨ov, hSl8, hov⟩, hL8, _⟩
  obtain ⟨rfl, rfl, rfl, rfl, hlog8⟩ := append_calm hn1 hn2 hlog ⟨hs0, hs1⟩ hz hO8
  obtain rfl := hov rfl
  exact ⟨mb8, k8, B8, rfl, hd8, hk8' rfl, hm8, hK8, hSl8, hL8 rfl, hlog8⟩
set_option maxRecDepth 100000 in
theorem sput_calm_at {w : World} {lb db nb mb n cap sb : Nat} {B : List UInt8} {k : Nat} {a' z' x' y' : Int} (h : LgAt w lb db n sb false a' z' x' y') (hd : DevAt w db nb mb n cap B k (.map []) 0 false) (hS : SlAt w sb db false) (hne : sb ≠ db ∧ sb ≠ nb ∧ sb ≠ mb) (hlne : lb ≠ db ∧ lb ≠ nb ∧ lb ≠ mb ∧ lb ≠ sb) (hk : k ≤ 1000) {a : Nat} {R : List (List UInt8)} {x y : Int} (hlog : LogOn n B a R x y) (p : Option Addr) (bc : Nat) (s : List UInt8) (m : Nat) (hm : s.length = m) (hs : m ≤ n / 4 * 64) (hbc : m ≤ bc) (hsrc : s ≠ [] → ∃ g o, p = some ⟨g, o, none⟩ ∧ g < w.heap.size ∧ (g ≠ db ∧ g ≠ nb ∧ g ≠ mb) ∧ w.rangeAt g o (bytesV s)) : Calls Tryz.prog 28 #[.pointer (some ⟨db, 0, none⟩), .pointer (some ⟨lb, 0, none⟩), .slice p m bc] w fun e w' => ∃ mb' k' B' q, e = .returned (.int .i64 0) ∧ DevAt w' db nb mb' n cap B' k' (.map []) 0 false ∧ k' ≤ 1 ∧ (mb' = mb ∨ w.heap.size ≤ mb') ∧ Keeps (fun i => i = db ∨ i = nb ∨ i = mb ∨ i = sb ∨ i = lb) w w' ∧ SlAt w' sb db false ∧ LgAt w' lb db n sb false a' z' x' y' ∧ LogOn n B' q [] (otherA x) (m : Int) ∧ cutB B' (areaAt n (otherA x)) m = s := by
  subst hm
  have hn1 := hd.n1
  have hn2 := hd.n2
  refine (sput_at h hd hS hne hlne hk a (encR R).length x y hlog.tl hlog.al hlog.sz p bc s hs hbc hsrc).mono ?_
  rintro e w8 ⟨code8, mb8, k8, B8, D8, left8, down8, rfl, hd8, hk8, hk8', hm8, hK8, hSp⟩
  rcases hSp with ⟨_, _, e, _⟩ | ⟨B1, left1, down1, hW, hq, hSv, hSl8, hL8, _⟩
  · exact (e rfl rfl).elim
  obtain ⟨rfl, rfl, rfl, rfl, hlog8, htxt⟩ := put_calm hn1 hn2 hlog hs hW (hq rfl rfl).1 (hq rfl rfl).2 hSv
  exact ⟨mb8, k8, B8, _, rfl, hd8, hk8' rfl, hm8, hK8, hSl8, hL8 rfl, hlog8, htxt⟩
theorem sget_log_at {w : World} {lb db nb mb n cap sb : Nat} {B : List UInt8} {k : Nat} {D : DataW Unit} {left : Int} {down : Bool} {a' z' x' y' : Int} (h : LgAt w lb db n sb false a' z' x' y') (hd : DevAt w db nb mb n cap B k D left down) {a : Nat} {R : List (List UInt8)} {x : Int} {l : Nat} (hlog : LogOn n B a R x (l : Int)) (hx : x = 1 ∨ x = 2) (hl : l ≤ n / 4 * 64) {s : List UInt8} (hs : cutB B (areaAt n x) l = s) : Calls Tryz.prog 27 #[.pointer (some ⟨db, 0, none⟩), .pointer (some ⟨lb, 0, none⟩)] w fun e w' => ∃ v, e = .returned (.tuple #[v, .int .i64 0]) ∧ SlB w' v s ∧ Below w.heap.size w w' := by
  subst hs
  exact sget_at h hd a (encR R).length x l hx hlog.tl hlog.al hlog.sz hl
end Go.Proofs.YtlmdeafmlommeaaGreatDoor
