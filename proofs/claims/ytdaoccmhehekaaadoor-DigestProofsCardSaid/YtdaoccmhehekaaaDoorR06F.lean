/- libraryref06: Root, Proof. -/
import Derived.Test.YtdaoccmhehekaaaDoorR06E
namespace Go.Proofs.YtdaoccmhehekaaaDoor
open Go.RowKit Go.PlainAid

def lenV : Value → Nat
  | .slice _ n _ => n
  | _ => 0
/-- All texts are as long as digests. -/
def A16 (M : List (List UInt8)) : Prop := ∀ i, i < M.length → (M.getD i []).length = 16
theorem leaves_16 (L : List (List UInt8)) : A16 (leaves L) := fun i hi => by
  rw [leaves_length] at hi
  rw [leaves_at L i hi]
  exact sumL_length _
theorem next_16 (M : List (List UInt8)) (h : A16 M) : A16 (nextL M) := fun i hi => by
  rw [nextL_length] at hi
  rw [nextL_at M i hi]
  unfold node
  split
  · exact sumL_length _
  · exact h _ (by omega)
theorem BL.cell {v : Value} {L : List (List UInt8)} {w : World} (h : BL v L w) (hne : 0 < L.length) : ∃ g o cap, v = .slice (some ⟨g, o, none⟩) L.length cap ∧ g < w.heap.size ∧ ∀ i, i < L.length → w.cell? ⟨g, o + i, none⟩ = some (.string (S (L.getD i []))) := by
  obtain ⟨a, cap, rfl, hc, hm, _, hx⟩ := h
  obtain ⟨g, o, rfl, hg, _⟩ := hx 0 hne
  refine ⟨g, o, cap, rfl, hg, fun i hi => ?_⟩
  obtain ⟨g', o', he, _, hcell⟩ := hx i hi
  simp only [Option.some.injEq, Addr.mk.injEq] at he
  rw [he.1, he.2.1]
  exact hcell

set_option maxHeartbeats 8000000 in
theorem refRoot_any (L : List (List UInt8)) (hz : L.length ≤ 100000) (hx : ∀ i, i < L.length → (L.getD i []).length ≤ 100000) (v : Value) (w : World) (hv : BL v L w) :
    Calls Tryd.prog 19 #[v] w fun e w' => e = .returned (.string (S (rootL L))) ∧ Below w.heap.size w w' := by
  have cL := Lib.hid (refLeaves_any L hz hx v w hv)
  obtain ⟨a, cap, rfl, hcap, hmax⟩ := hv.length
  clear hv
  obtain ⟨n, hN⟩ : ∃ n, L.length = n := ⟨_, rfl⟩
  have HR : RowKit.Hid (rootL L = if n = 0 then sumL [] else topF n (leaves L)) := by unfold RowKit.Hid rootL; rw [hN]
  have H16 := Lib.hid (leaves_16 L)
  have HLL : RowKit.Hid ((leaves L).length = n) := by unfold RowKit.Hid; rw [leaves_length, hN]
  rw [hN] at hcap hz cL ⊢
  clear hN hx
  obtain ⟨res, hres⟩ : ∃ res, S (rootL L) = res := ⟨_, rfl⟩
  rw [hres]
  have HRes := Lib.hid hres
  clear hres
  by_cases h0 : n = 0
  · have t0 : ((n : Int) == 0) = true := by rw [h0]; rfl
    have cS := Lib.hid (fun W => refSum_any [] (by decide) W)
    rw [HR.out, if_pos h0] at HRes
    rw [show S [] = (⟨#[]⟩ : ByteArray) from rfl, HRes.out] at cS
    go_enter Tryd.func19, Tryd.ntmps19
    go_wp2_with fail
    refine (cS.out _).mono ?_
    rintro e w1 ⟨rfl, b1⟩
    go_wp2
    go_ret
    exact ⟨rfl, b1⟩
  · have t0 : ((n : Int) == 0) = false := by simp; omega
    rw [HR.out, if_neg h0] at HRes
    go_enter Tryd.func19, Tryd.ntmps19
    go_wp2_with fail
    refine (cL.out).mono ?_
    rintro e w1 ⟨v1, rfl, hs1, b1⟩
    have hbl1 := hs1.bl
    clear hs1
    go_wp2
    go_loopw [3] (fun m wr => ∃ M : List (List UInt8), BL m M wr ∧ RowKit.Hid (A16 M ∧ 1 ≤ M.length ∧ M.length ≤ n ∧ topF n M = topF n (leaves L)) ∧ Below w.heap.size w wr) (fun m _ => lenV m)
    case atStart => exact ⟨leaves L, hbl1, ⟨H16.out, by rw [HLL.out]; omega, by rw [HLL.out]; omega, rfl⟩, b1⟩
    case round =>
      obtain ⟨M, hbl, HM, hbw⟩ := hrel
      clear hbl1 b1
      obtain ⟨h1, h2, h3, h4⟩ := HM.out
      obtain ⟨g, o, cp, rfl, hg, hc⟩ := hbl.cell h2
      have Hbw := Lib.hid hbw
      by_cases hgt : 1 < M.length
      · have cN := Lib.hid (refNext_any M (by omega) (fun i hi => by rw [h1 i hi]; decide) _ wr hbl)
        have HM2 : RowKit.Hid (A16 (nextL M) ∧ 1 ≤ (nextL M).length ∧ (nextL M).length ≤ n ∧ topF n (nextL M) = topF n (leaves L)) :=
          ⟨next_16 M h1, by rw [nextL_length]; omega, by rw [nextL_length]; omega, by rw [← top_step n M hgt (by omega)]; exact h4⟩
        have HL2 := Lib.hid (nextL_length M)
        clear hc hbl h1 h4 hbw
        generalize M.length = ml at *
        have t1 : decide ((1 : Int) < (ml : Int)) = true := by simp; omega
        go_wp2_with fail
        refine (cN.out).mono ?_
        rintro e w2 ⟨v2, rfl, hs2, b2⟩
        have hbl2 := hs2.bl
        have hb2 := Hbw.out.trans (b2.mono Hbw.out.size)
        obtain ⟨g2, cp2, rfl, _⟩ := hs2.open
        clear hs2 b2
        go_wp2
        go_roundw
        case rel => exact ⟨nextL M, hbl2, HM2, hb2⟩
        case measure => simp [lenV]; have := HL2.out; omega
      · have hM : M.length = 1 := by omega
        have hc0 := hc 0 (by omega)
        have ht : topF n M = M.getD 0 [] := top_one n M (by omega)
        rw [← h4, ht] at HRes
        rw [HRes.out, Nat.add_zero] at hc0
        rw [hM]
        clear hc hbl h1 h2 h3 h4 hbw HM hM ht
        go_wp2
        go_ret
        exact ⟨rfl, Hbw.out⟩
end Go.Proofs.YtdaoccmhehekaaaDoor
