/- libraryref02.Compare over texts of at most ten thousand characters. -/
import Derived.Test.YtjfeckccmfbkhaaDoorR02Key
namespace Go.Proofs.YtjfeckccmfbkhaaDoor
open Go.RowKit

/-- Two strings byte by byte: -1, 0 or 1. -/
def cmpB (x y : ByteArray) : Int := if Op.bytesLess x.toList y.toList = true then -1 else if (x.toList == y.toList) = true then 0 else 1
/-- The order of texts in a language. -/
def cmpT (lang : ByteArray) (ca cb : List Nat) : Int :=
  if ((T (keyL lang ca)).toList == (T (keyL lang cb)).toList) = true then cmpB (T ca) (T cb) else cmpB (T (keyL lang ca)) (T (keyL lang cb))

set_option maxHeartbeats 8000000 in
theorem refCompare_any (lang : ByteArray) (ca cb : List Nat) (ha : OKs ca) (hb : OKs cb) (hza : ca.length ≤ 10000) (hzb : cb.length ≤ 10000) (a b : ByteArray) (ea : a = T ca) (eb : b = T cb) (w : World) :
    Calls Tryd.prog 20 #[.string lang, .string a, .string b] w fun e w' => e = .returned (.int .i64 (cmpT lang ca cb)) ∧ Below w.heap.size w w' := by
  subst ea eb
  have cA := Lib.hid (fun W => refKey_any lang ca ha (T ca) (T (keyL lang ca)) rfl hza rfl W)
  have cB := Lib.hid (fun W => refKey_any lang cb hb (T cb) (T (keyL lang cb)) rfl hzb rfl W)
  have HC := Lib.hid (Eq.refl (cmpT lang ca cb))
  unfold RowKit.Hid at HC
  conv at HC => rhs; unfold cmpT
  have HR := Lib.hid HC
  clear HC ha hb hza hzb
  generalize cmpT lang ca cb = R at HR
  generalize T (keyL lang ca) = x at cA HR
  generalize T (keyL lang cb) = y at cB HR
  generalize T ca = s at cA HR
  generalize T cb = t at cB HR
  have step : ∀ (u v : ByteArray), R = cmpB u v → (R = -1 ∧ Op.bytesLess u.toList v.toList = true) ∨ (R = 0 ∧ Op.bytesLess u.toList v.toList = false ∧ (u.toList == v.toList) = true) ∨ (R = 1 ∧ Op.bytesLess u.toList v.toList = false ∧ (u.toList == v.toList) = false) := by
    intro u v h
    unfold cmpB at h
    cases h1 : Op.bytesLess u.toList v.toList
    · rw [h1] at h
      cases h2 : (u.toList == v.toList)
      · rw [h2] at h; right; right; exact ⟨by simpa using h, rfl, rfl⟩
      · rw [h2] at h; right; left; exact ⟨by simpa using h, rfl, rfl⟩
    · rw [h1] at h; left; exact ⟨by simpa using h, rfl⟩
  cases hk : (x.toList == y.toList)
  · have hR : R = cmpB x y := by have := HR.out; rw [hk] at this; simpa using this
    have hs := step x y hR
    clear hR step HR
    have hs2 : (R = -1 ∧ Op.bytesLess x.toList y.toList = true) ∨ (R = 1 ∧ Op.bytesLess x.toList y.toList = false) := by
      rcases hs with h | ⟨_, _, h2⟩ | ⟨h0, h1, _⟩
      · exact .inl h
      · rw [hk] at h2; cases h2
      · exact .inr ⟨h0, h1⟩
    clear hs
    rcases hs2 with ⟨rfl, h1⟩ | ⟨rfl, h1⟩
    all_goals
      go_enter Tryd.func20, Tryd.ntmps20
      go_wp2_with fail
      refine (cA.out _).mono ?_
      rintro e w1 ⟨rfl, b1⟩
      go_wp2_with fail
      refine (cB.out _).mono ?_
      rintro e w2 ⟨rfl, b2'⟩
      have b2 := b1.trans (b2'.mono b1.size)
      clear b2' b1
      go_wp2
      go_ret
      exact ⟨rfl, b2⟩
  · have hR : R = cmpB s t := by have := HR.out; rw [hk] at this; simpa using this
    have hs := step s t hR
    clear hR step HR
    rcases hs with ⟨rfl, h1⟩ | ⟨rfl, h1, h2⟩ | ⟨rfl, h1, h2⟩
    all_goals
      go_enter Tryd.func20, Tryd.ntmps20
      go_wp2_with fail
      refine (cA.out _).mono ?_
      rintro e w1 ⟨rfl, b1⟩
      go_wp2_with fail
      refine (cB.out _).mono ?_
      rintro e w2 ⟨rfl, b2'⟩
      have b2 := b1.trans (b2'.mono b1.size)
      clear b2' b1
      go_wp2
      go_ret
      exact ⟨rfl, b2⟩
end Go.Proofs.YtjfeckccmfbkhaaDoor
