/- libraryref01.decode over texts -/
import Derived.Test.YtjfeckccmfbkhaaDoorRDec
namespace Go.Proofs.YtjfeckccmfbkhaaDoor
open Go.RowKit

theorem wid_bad : wid 65533 = 3 := by decide

theorem good_T (c : Nat) (h : okc c) : goodP (c, wid c) := by
  refine ⟨?_, ?_⟩
  · rintro ⟨h1, h2⟩
    simp only at h1 h2
    subst h1
    rw [wid_bad] at h2
    omega
  · unfold okc at h
    simp only
    omega

theorem refDec_T (cs : List Nat) (h : OKs cs) (k : Nat) (hk : k < cs.length) : refDec (T cs) (off cs k) = (cs[k], wid cs[k]) := by
  unfold refDec
  rw [decode_T cs h k hk, if_pos (good_T _ (OKs_get h hk))]

theorem decode_refT (cs : List Nat) (h : OKs cs) (hz : (T cs).size ≤ 1000000) (k : Nat) (hk : k < cs.length) (w : World) :
    Calls Tryd.prog 41 #[.string (T cs), .int .i64 (off cs k)] w fun e w' => e = .returned (.tuple #[.int .i64 (cs[k] : Nat), .int .i64 (wid cs[k])]) ∧ Below w.heap.size w w' := by
  have := decode_ref (T cs) (off cs k) (off_lt cs k hk) hz w
  rw [refDec_T cs h k hk] at this
  exact this

end Go.Proofs.YtjfeckccmfbkhaaDoor
