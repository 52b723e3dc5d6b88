/- libraryref07: read. -/
import Derived.Test.YtjajihemcaihmaaGreatDoorR07M
import Derived.Deep.CutBlock
import Derived.Deep.DeepCutAuto
namespace Go.Proofs.YtjajihemcaihmaaGreatDoor
open Go.RowKit Go.PlainAid

/-- What read returns: a field, and whether the line could be one. -/
def ReadEnd (w : World) (s : List UInt8) (e : Ending) (w' : World) : Prop :=
  ∃ tg ix ao n cp au b, e = .returned (.tuple #[.agg #[.string tg, .string ix, .slice ao n cp, .int .i64 au], .bool b]) ∧ Below w.heap.size w w' ∧
    (readL s = none → b = false) ∧ (∀ f, readL s = some f → b = true ∧ tg = S f.tag ∧ ix = S f.ind ∧ au = f.auth ∧ w'.ownsRow (w.heap.size + 2) 32 2 (.slice ao n cp) f.subs.length (cellsL f.subs))

set_option maxHeartbeats 16000000 in
set_option maxRecDepth 100000 in
theorem refread_short (s : List UInt8) (h : s.length < 8) (w : World) :
    Calls Tryz.prog 16 #[.string (S s)] w fun e w' => ReadEnd w s e w' := by
  have hr : readL s = none := by unfold readL; rw [if_pos h]
  have HS := RS.first w
  obtain ⟨hfin, hql, hbl⟩ := HS.ret
  obtain ⟨n, hn⟩ : ∃ n, s.length = n := ⟨_, rfl⟩
  have hsz := S_size s
  rw [hn] at hsz h
  have HE : RowKit.Hid (∀ e w', (∃ tg ix ao n cp au, e = .returned (.tuple #[.agg #[.string tg, .string ix, .slice ao n cp, .int .i64 au], .bool false]) ∧ Below w.heap.size w w') → ReadEnd w s e w') := by
    rintro e w' ⟨tg, ix, ao, n, cp, au, h1, h2⟩
    exact ⟨tg, ix, ao, n, cp, au, false, h1, h2, fun _ => rfl, fun f hf => by rw [hr] at hf; cases hf⟩
  have hb := HS.bel
  clear hr hn hfin hql hbl
  obtain ⟨Q, hQ⟩ : ∃ Q, (fun e w' => ReadEnd w s e w') = Q := ⟨_, rfl⟩
  rw [hQ]
  have HQ : RowKit.Hid (∀ e w', (∃ tg ix ao n cp au, e = .returned (.tuple #[.agg #[.string tg, .string ix, .slice ao n cp, .int .i64 au], .bool false]) ∧ Below w.heap.size w w') → Q e w') := by rw [← hQ]; exact HE.out
  clear hQ HE
  generalize S s = st at *
  have d0 : decide ((n : Int) < 8) = true := decide_eq_true (by omega)
  have zR := Lib.hid HS.r
  clear HS
  go_enter Tryz.func16, Tryz.ntmps16
  go_wp2
  refine bodyPost_ret (results_row_tmp rfl _ _ w.heap.size _ _ _ _ rfl zR.out Tryz.underlying25 rfl (by kernel_rfl)) rfl ?_
  exact HQ.out _ _ ⟨_, _, _, _, _, _, rfl, hb⟩
end Go.Proofs.YtjajihemcaihmaaGreatDoor
