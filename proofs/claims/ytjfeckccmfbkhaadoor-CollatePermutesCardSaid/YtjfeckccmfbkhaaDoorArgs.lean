/- Arguments that came in: a slice of strings, an array of three strings. -/
import Derived.Test.YtjfeckccmfbkhaaDoorEnvAcc
import Derived.Test.YtjfeckccmfbkhaaDoorCSortAll
import Derived.SliceStrings
import Derived.Lib.SmallJoins
import Derived.Carry
namespace Go.Proofs.YtjfeckccmfbkhaaDoor
open Go.RowKit Go.Lib Go.ChangeShapes Go.WideShapes

theorem laidOut : laidOutB Tryd.prog = true := by kernel_rfl

theorem open_texts {H : Type} {enc : TypeId × Value → H} {W : World} {a0 : Option Addr} {len cap fuel : Nat} {x : DataW H × List MemPlace}
    (hf : DataW.trod enc Tryd.prog W 0 (fun _ => true) true fuel 23 [.slice a0 len cap] = some x) :
    ∃ l : List ByteArray, l.length = len ∧ SL (.slice a0 len cap) l W ∧ len ≤ maxLen ∧ ∀ s ∈ l, s.size ≤ maxLen := by
  rcases open_strings Tryd.underlying23 Tryd.underlying9 cells_string hf with ⟨hcs, hx⟩ | ⟨a, len', cap', ss, hcs, _, hl, hm, hz, hx, hcell, hsz⟩
  · simp at hcs
    obtain ⟨rfl, rfl, rfl⟩ := hcs
    exact ⟨[], rfl, ⟨none, 0, rfl, Nat.le_refl _, fun i x hi => by simp at hi⟩, Nat.zero_le _, fun s hs => by cases hs⟩
  · simp at hcs
    obtain ⟨rfl, rfl, rfl⟩ := hcs
    simp only [if_true] at hz
    obtain ⟨b, off, spot⟩ := a
    have hlen : (ss.take len).length = len := by simp; omega
    refine ⟨ss.take len, hlen, ⟨some ⟨b, off, spot⟩, cap, by rw [hlen], by omega, fun i X hX => ?_⟩, by omega, fun s hs => hsz s (List.mem_of_mem_take hs)⟩
    have hj : i < len := by
      have := (List.getElem?_eq_some_iff.1 hX).1
      simp at this
      omega
    have hspot : spot = none := by simpa [Addr.add] using World.cell?_spot (hcell 0 (by omega))
    subst hspot
    have hX' : ss.getD i ByteArray.empty = X := by
      rw [List.getElem?_take_of_lt hj] at hX
      simp [List.getD, hX]
    have hc := hcell i (by omega)
    have hadd : (⟨b, off, none⟩ : Addr).add i = ⟨b, off + i, none⟩ := by unfold Addr.add; split <;> simp_all
    rw [hadd, hX'] at hc
    refine ⟨b, off, rfl, ?_, hc⟩
    rcases Nat.lt_or_ge b W.heap.size with hh | hh
    · exact hh
    · simp [World.cell?, Array.getElem?_eq_none hh] at hc

set_option maxRecDepth 100000 in
theorem open_arr3 {H : Type} {enc : TypeId × Value → H} {W : World} {base : Nat} {v : Value} {d : DataW H} {p : List MemPlace} (hv : Value.okWide Tryd.prog W .any base 33 v)
    (h : DataW.Trod enc Tryd.prog W 0 (fun _ => true) true 33 v d p) : ∃ a b c : ByteArray, v = .agg #[.string a, .string b, .string c] := by
  have hv2 : ∃ cs, v = .agg cs ∧ cs.size = Tryd.prog.cellsOf 33 := by
    unfold Value.okWide at hv
    rw [Tryd.underlying33] at hv
    obtain ⟨cs, h1, h2, _⟩ := hv
    exact ⟨cs, h1, h2⟩
  obtain ⟨cs, rfl, hsz⟩ := hv2
  have hsz3 : cs.size = 3 := hsz.trans (by kernel_rfl)
  obtain ⟨c0, c1, c2, rfl⟩ : ∃ c0 c1 c2, cs = #[c0, c1, c2] := by
    obtain ⟨l⟩ := cs
    match l, hsz3 with
    | [c0, c1, c2], _ => exact ⟨c0, c1, c2, rfl⟩
  obtain ⟨fuel, hf⟩ := h
  have hd : ∃ ds, d = .agg ds := by
    cases fuel with
    | zero => simp [DataW.trod] at hf
    | succ n =>
      simp only [DataW.trod, Tryd.underlying33] at hf
      split at hf
      · obtain ⟨xs, _, hx⟩ := Option.map_eq_some_iff.1 hf
        exact ⟨_, (congrArg Prod.fst hx).symm⟩
      · cases hf
  obtain ⟨ds, rfl⟩ := hd
  have key : ∀ i, i < 3 → ∃ s : ByteArray, (([c0, c1, c2] : List Value).drop i).take 1 = [.string s] := by
    intro i hi
    obtain ⟨f', d', q, _, he⟩ := array_elem Tryd.underlying33 hf i hi
    rw [cells_string, Nat.mul_one] at he
    obtain ⟨s, e1, _, _⟩ := DataW.trod_string Tryd.underlying9 he
    exact ⟨s, e1⟩
  obtain ⟨a, ha⟩ := key 0 (by decide)
  obtain ⟨b, hb⟩ := key 1 (by decide)
  obtain ⟨c, hc⟩ := key 2 (by decide)
  simp at ha hb hc
  exact ⟨a, b, c, by rw [ha, hb, hc]⟩
end Go.Proofs.YtjfeckccmfbkhaaDoor
