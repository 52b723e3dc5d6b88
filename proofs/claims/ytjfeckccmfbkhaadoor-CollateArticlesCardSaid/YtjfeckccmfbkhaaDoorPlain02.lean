/- Plain mathematics of layer 2: keys of texts in a language. No program is named here. -/
import Derived.Test.YtjfeckccmfbkhaaDoorPlainB
namespace Go.Proofs.YtjfeckccmfbkhaaDoor
open Go.Lib

def eng : ByteArray := ⟨#[101, 110, 103]⟩
def ger : ByteArray := ⟨#[103, 101, 114]⟩
def swe : ByteArray := ⟨#[115, 119, 101]⟩
def spa : ByteArray := ⟨#[115, 112, 97]⟩
/-- What a character becomes in a language before folding. -/
def repGer (c : Nat) : List Nat := if c = 196 ∨ c = 228 then [97, 101] else if c = 214 ∨ c = 246 then [111, 101] else if c = 220 ∨ c = 252 then [117, 101] else [c]
def repSwe (c : Nat) : List Nat := if c = 197 ∨ c = 229 then [123] else if c = 196 ∨ c = 228 then [124] else if c = 214 ∨ c = 246 then [125] else [c]
def repSpa (c : Nat) : List Nat := if c = 209 ∨ c = 241 then [110, 126] else [c]
def rep (lang : ByteArray) (c : Nat) : List Nat :=
  if 123 ≤ c ∧ c ≤ 126 then [32] else if lang = ger then repGer c else if lang = swe then repSwe c else if lang = spa then repSpa c else [c]
def repL (lang : ByteArray) (cs : List Nat) : List Nat := cs.flatMap (rep lang)
/-- A character that stays in keys. -/
def keyc (c : Nat) : Bool := (decide (97 ≤ c) && decide (c ≤ 122)) || (decide (48 ≤ c) && decide (c ≤ 57)) || (decide (123 ≤ c) && decide (c ≤ 126)) || decide (256 ≤ c)
def keyStep (st : List Nat × Bool) (c : Nat) : List Nat × Bool :=
  if keyc c then ((if st.2 = true ∧ st.1 ≠ [] then st.1 ++ [32] else st.1) ++ [c], false) else (st.1, true)
def keyRun (cs : List Nat) : List Nat × Bool := cs.foldl keyStep ([], false)
/-- The key of a text. -/
def keyL (lang : ByteArray) (cs : List Nat) : List Nat := (keyRun (foldL (repL lang cs))).1

theorem keyRun_snoc (cs : List Nat) (c : Nat) : keyRun (cs ++ [c]) = keyStep (keyRun cs) c := by simp [keyRun]
theorem keyRun_take (cs : List Nat) (j : Nat) (h : j < cs.length) : keyRun (cs.take (j + 1)) = keyStep (keyRun (cs.take j)) cs[j] := by
  rw [List.take_succ_eq_append_getElem h, keyRun_snoc]
theorem repL_append (lang : ByteArray) (a b : List Nat) : repL lang (a ++ b) = repL lang a ++ repL lang b := by simp [repL]
theorem repL_one (lang : ByteArray) (c : Nat) : repL lang [c] = rep lang c := by simp [repL]
theorem repL_take (lang : ByteArray) (cs : List Nat) (j : Nat) (h : j < cs.length) : repL lang (cs.take (j + 1)) = repL lang (cs.take j) ++ rep lang cs[j] := by
  rw [List.take_succ_eq_append_getElem h, repL_append, repL_one]
theorem rep_all (p : List Nat → Prop) (lang : ByteArray) (c : Nat) (h32 : p [32]) (hs : p [c]) (h1 : p [97, 101]) (h2 : p [111, 101]) (h3 : p [117, 101]) (h4 : p [123]) (h5 : p [124]) (h6 : p [125]) (h7 : p [110, 126]) : p (rep lang c) := by
  unfold rep repGer repSwe repSpa
  repeat' split
  all_goals assumption
theorem rep_OK (lang : ByteArray) (c : Nat) (h : okc c) : OKs (rep lang c) := by
  refine rep_all OKs lang c ?_ ?_ ?_ ?_ ?_ ?_ ?_ ?_ ?_
  case refine_2 => intro x hx; simp at hx; subst hx; exact h
  all_goals (unfold OKs; decide)
theorem rep_len (lang : ByteArray) (c : Nat) : (rep lang c).length ≤ 2 := by
  refine rep_all (fun l => l.length ≤ 2) lang c ?_ ?_ ?_ ?_ ?_ ?_ ?_ ?_ ?_
  all_goals simp
theorem repL_OK (lang : ByteArray) (cs : List Nat) (h : OKs cs) : OKs (repL lang cs) := by
  intro x hx
  unfold repL at hx
  obtain ⟨c, hc, hx'⟩ := List.mem_flatMap.1 hx
  exact rep_OK lang c (h c hc) x hx'
theorem repL_len (lang : ByteArray) (cs : List Nat) : (repL lang cs).length ≤ 2 * cs.length := by
  induction cs with
  | nil => simp [repL]
  | cons c cs ih =>
    have := rep_len lang c
    have e : repL lang (c :: cs) = rep lang c ++ repL lang cs := by simp [repL]
    rw [e, List.length_append, List.length_cons]
    omega
theorem keyRun_len (cs : List Nat) : (keyRun cs).1.length ≤ 2 * cs.length := by
  refine snoc_ind (p := fun cs => (keyRun cs).1.length ≤ 2 * cs.length) (by simp [keyRun]) ?_ cs
  intro l c ih
  rw [keyRun_snoc]
  unfold keyStep
  split
  · simp only
    split <;> simp <;> omega
  · simp only [List.length_append, List.length_singleton]; omega
theorem keyRun_OK (cs : List Nat) (h : OKs cs) : OKs (keyRun cs).1 := by
  refine snoc_ind (p := fun cs => OKs cs → OKs (keyRun cs).1) ?_ ?_ cs h
  · intro _; exact OKs_nil
  · intro l c ih hl
    obtain ⟨h1, h2⟩ := OKs_append.1 hl
    rw [keyRun_snoc]
    unfold keyStep
    split
    · refine OKs_append.2 ⟨?_, h2⟩
      split
      · exact OKs_append.2 ⟨ih h1, by intro x hx; simp at hx; subst hx; exact okc_32⟩
      · exact ih h1
    · exact ih h1
theorem keyL_OK (lang : ByteArray) (cs : List Nat) (h : OKs cs) : OKs (keyL lang cs) := keyRun_OK _ (fold_OK _ (repL_OK lang cs h))
theorem keyL_len (lang : ByteArray) (cs : List Nat) : (keyL lang cs).length ≤ 8 * cs.length := by
  have h1 := keyRun_len (foldL (repL lang cs))
  have h2 := fold_len (repL lang cs)
  have h3 := repL_len lang cs
  unfold keyL
  omega
end Go.Proofs.YtjfeckccmfbkhaaDoor
