/- What the reference's Check keeps in memory; an append within a region that draws. -/
import Derived.Test.YtjfdolmcecgdgaaDoorUK09
import Derived.Test.YtjfdolmcecgdgaaDoorRH09
import Derived.Deep.RegionLaw
import Derived.Deep.AppendLies
namespace Go.Proofs.YtjfdolmcecgdgaaDoor
open Go.RowKit Go.PlainAid

/-- append of one problem to a row of the call's own, within a region that draws. -/
theorem step_append_pr {ops : Array Oper} {o : Oper} {a : Act} {K : Act → World → Prop} {Q : Exit → Act → World → Prop} {E : Prop} (w : World) (hgd : o.guard = none) (s x : Operand)
    (ho : o.op = .call { callee := .builtin .append, args := #[s, x], argTypes := #[39, 39] })
    (B : Nat) (v : Value) (L : List Prb) (hs : a.eval s = v) (hr : PR B v L w) (p : Prb) (ad : Addr) (hx : a.eval x = .slice (some ad) 1 1) (hM : PL (.slice (some ad) 1 1) [p] w)
    (hz : L.length + 1 ≤ 1000000) (hB : B ≤ w.heap.size)
    (h : ∀ g cap w', PR B (.slice (some ⟨g, 0, none⟩) (L.length + 1) cap) (L ++ [p]) w' → w.grownBy w' v.ownBlock → K (a.put o.dst (.slice (some ⟨g, 0, none⟩) (L.length + 1) cap)) w') :
    if Region.wanted o (yielded ops a.tmps) = true then Oper.wp Tryd.prog o a w K Q else E := by
  obtain ⟨i0, hi, hz0, hz1, hz2⟩ := info_prb
  rcases hM.none_or with ⟨h0, _⟩ | ⟨ad', cap, h1, _, _, hcell⟩
  · cases h0
  · obtain ⟨ha, -, -⟩ := Value.slice.inj h1
    obtain rfl := Option.some.inj ha
    refine step_append_lies w hgd s x _ ho B _ i0 (.agg #[.int .i64 0, .int .i64 0, .string ⟨#[]⟩, .int .u8 0]) 4 40 Tryd.underlying39 hi hz0 hz1 hz2 rfl (by decide) v L.length (cellsP L) hs hr ad 1 1 (cellsP [p]) hx
      (by rw [cellsP_length]; rfl) hcell (cellsP_one [p]) (by decide) (by unfold maxLen; omega) (by omega) hB _ rfl fun g cap w' hown' hgrow _ _ => h g cap w' ?_ hgrow
    unfold PR
    rw [cellsP_app, List.length_append]
    exact hown'

/-- What lies in memory while a field is checked: the problems so far, the field and its rule in their boxes. -/
structure CR (W0 : World) (bf bt : Nat) (f : Fld) (u : Value) (t : Rul) (M : List Prb) (s : Value) (wr : World) : Prop where
  pr : PR W0.heap.size s M wr
  fb : FBx bf f u wr
  ub : UB bt t wr
  bel : Below W0.heap.size W0 wr
theorem CR.after {W0 : World} {bf bt : Nat} {f : Fld} {u : Value} {t : Rul} {M : List Prb} {s : Value} {wr w' : World} (h : CR W0 bf bt f u t M s wr) (hb : Below wr.heap.size wr w') : CR W0 bf bt f u t M s w' :=
  ⟨h.pr.after hb, h.fb.after hb, h.ub.after hb, h.bel.trans (hb.mono h.bel.size)⟩
theorem CR.app {W0 : World} {bf bt : Nat} {f : Fld} {u : Value} {t : Rul} {M M' : List Prb} {s s' : Value} {wr w' : World} (h : CR W0 bf bt f u t M s wr) (hr : PR W0.heap.size s' M' w') (hg : wr.grownBy w' s.ownBlock) : CR W0 bf bt f u t M' s' w' :=
  ⟨hr, h.fb.fr (bl := bf + 1) (by omega) (Fr.of_own h.pr hg), h.ub.fr (bl := bt + 1) (by omega) (Fr.of_own h.pr hg), h.bel.grown hg h.bel.size (fun j hj => (World.ownsRow.lt h.pr j hj).1)⟩
/-- The problem that is appended lies in a block of its own. -/
theorem PL.one' (w : World) (k i : Int) (g : List UInt8) (c : UInt8) (st : ByteArray) (cv : Int) (hs : S g = st) (hc : (c.toNat : Int) = cv) : PL (.slice (some ⟨w.heap.size, 0, none⟩) 1 1) [⟨k, i, g, c⟩] (w.alloc (.cells #[.int .i64 k, .int .i64 i, .string st, .int .u8 cv] 44)) := by
  subst hs hc
  exact PL.one w ⟨k, i, g, c⟩

theorem Bnd.fits {l : List Rul} {fs : List Fld} (h : Bnd l fs) : Fits l fs := by
  refine ⟨by have := h.ln; omega, by have := h.fn; omega, fun i hi => Nat.le_trans (h.lt i hi).1 (by decide), fun i hi => Nat.le_trans (h.ft i hi).2 (by decide), fun i hi => Nat.le_trans (h.ft i hi).1 (by decide), fun t ht => ?_⟩
  obtain ⟨i, hi, rfl⟩ := List.getElem_of_mem ht
  have := (h.lt i hi).2.2.2
  rw [List.getD_eq_getElem?_getD, List.getElem?_eq_getElem hi] at this
  exact Nat.le_trans this (by decide)

end Go.Proofs.YtjfdolmcecgdgaaDoor
