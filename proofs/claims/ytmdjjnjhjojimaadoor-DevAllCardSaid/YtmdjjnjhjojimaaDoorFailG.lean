import Derived.Test.YtmdjjnjhjojimaaDoorFailC
namespace Go.Proofs.YtmdjjnjhjojimaaDoor
open Go.RowKit

theorem info9 : (Tryd.prog.info? 9).map (fun i => (i.zero, i.size, i.bytes)) = some (some (.string ⟨#[]⟩), 1, 16) := by kernel_rfl
theorem strs_one (l : List ByteArray) : ∀ u ∈ l.map Value.string, u.oneCell' = true := by
  intro u hu
  obtain ⟨s, _, rfl⟩ := List.mem_map.1 hu
  rfl

set_option maxRecDepth 100000 in
set_option maxHeartbeats 1000000 in
theorem where_chain (n : Int) (ws : List ByteArray) (v : Value) (w : World) (hc : Chain w n ws v) (hl : ws.length ≤ 1000000) :
    Calls Tryd.prog 40 #[v] w fun ev w' => ∃ v', ev = .returned v' ∧ w'.ownsRow w.heap.size 9 1 v' ws.length (ws.map Value.string) ∧ Below w.heap.size w w' := by
  obtain ⟨i0, hi, hz0, hz1, hz2⟩ := info_parts info9
  have f1 := ta99_99
  have f2 := ta31_99
  go_enter Tryd.func40, Tryd.ntmps40
  go_wp2
  go_loopg [0, 3] ws.length (fun k p al wr => ∃ done r : List ByteArray, ws = done ++ r ∧ r.length = k ∧ Chain wr n r p ∧ wr.ownsRow w.heap.size 9 1 al done.length (done.map Value.string) ∧ Below w.heap.size w wr ∧ Chain w n r p)
  case atStart => exact ⟨[], ws, rfl, rfl, hc, World.ownsRow_nil w _ _ _, Below.refl _ _, hc⟩
  case round =>
    obtain ⟨done, r, hws, hrl, hcr, hrow, hb, hcw⟩ := hrel
    cases r with
    | nil =>
      have hcr' : _ = errno n := hcr
      subst hcr'
      go_wp2
      go_ret
      rw [List.append_nil] at hws
      subst hws
      exact ⟨_, rfl, hrow, hb⟩
    | cons s r' =>
      obtain ⟨b, u, rfl, d0, d1, d2⟩ := hcr
      obtain ⟨b', u', e', d0', d1', d2'⟩ := hcw
      have hbb : b' = b := by injection e' with _ e2; injection e2 with e3; injection e3 with e4; injection e4 with e5; exact e5.symm
      subst hbb
      have hbl := World.block_lt_of_cell? w _ d0'
      have huu : u' = u := by
        have := (hb.cell (p := ⟨b', 1, none⟩) hbl).symm.trans d1
        rw [d1'] at this; exact Option.some.inj this
      subst huu
      have hdl : done.length ≤ 1000000 := by have := congrArg List.length hws; simp at this; omega
      have hbs := hb.size
      have A : Aside (ws = done ++ s :: r' ∧ r'.length + 1 = gk ∧ Chain w n r' u' ∧ Chain wr n r' u') := ⟨hws, hrl, d2', d2⟩
      clear hws hrl d2 d2' e'
      go_wp2_with (at_builtin; refine wpList_append_own _ rfl _ _ 53 rfl w.heap.size 9 i0 (.string ⟨#[]⟩) 1 16 Tryd.underlying53 hi hz0 hz1 hz2 rfl (by decide) _ done.length _ rfl (hrow.alloc _) ⟨wr.heap.size, 0, none⟩ 1 1 [.string s] rfl rfl (cell_one_new _ _ _) ?q1 ?q2 ?q3 ?q4 ?_)
      case q1 => rfl
      case q2 => unfold maxLen; omega
      case q3 => omega
      case q4 => omega
      intro v1 w1 hown1 hg1 hnil1
      have hb1 : Below w.heap.size w w1 := by
        refine (hb.alloc hbs _).grown hg1 (by simp; omega) (fun k e => ?_)
        obtain ⟨_, ⟨e1, _⟩ | ⟨g', cap, cur, e1, r1, _⟩⟩ := hrow
        · rw [e1] at e; cases e
        · rw [e1] at e; cases e; exact r1
      have hch : Chain w1 n r' u' := by
        have := A.out.2.2.1
        exact Chain.keeps (Keeps.of_below (S := fun _ => False) hb1) (fun _ _ e => e) this
      have d11 : w1.cell? ⟨b', 1, none⟩ = some u' := (hb1.cell (p := ⟨b', 1, none⟩) hbl).trans d1'
      have AR : Aside (w1.ownsRow w.heap.size 9 1 v1 (done ++ [s]).length ((done ++ [s]).map Value.string)) := by
        show w1.ownsRow w.heap.size 9 1 v1 (done ++ [s]).length ((done ++ [s]).map Value.string)
        rw [List.length_append, List.map_append]; exact hown1
      have AC : Aside (Chain w1 n r' u') := hch
      clear hown1 hch d0 d1 hrow hnil1 hg1
      go_wp2
      go_roundg r'.length
      case measure => obtain ⟨a1, a2, a3⟩ := A.out; omega
      case rel => exact ⟨done ++ [s], r', by rw [A.out.1]; simp, rfl, AC.out, AR.out, hb1, A.out.2.2.1⟩
end Go.Proofs.YtmdjjnjhjojimaaDoor
