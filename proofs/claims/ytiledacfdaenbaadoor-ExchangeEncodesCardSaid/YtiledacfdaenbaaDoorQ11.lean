/- Merged: Plain10C, PL07, TAllowed. -/
import Derived.Test.YtiledacfdaenbaaDoorQ10
import Derived.Test.YtiledacfdaenbaaDoorQ08
import Derived.Lib.ReplaceLaws
import Derived.Lib.Replace
import Derived.Lib.CountLaws
import Derived.Lib.IndexMore
import Derived.Lib.IndexLaws
import Derived.Lib.AtoiAll
import Derived.Lib.Join
import Derived.Lib.Strings
import Derived.Test.YtiledacfdaenbaaDoorQ04
namespace Go.Proofs.YtiledacfdaenbaaDoor

section
def numF (s : List UInt8) (i n : Nat) : Int := if s.length < i + n ∨ ((s.drop i).take n).all digB = false then -1 else (valV ((s.drop i).take n) : Int)
def kindF (c : UInt8) : Int := if c = 98 then 1 else if c = 115 then 2 else if c = 109 then 3 else if c = 100 then 4 else 0
def stopF : List UInt8 → Nat
  | [] => 0
  | x :: t => if x = 31 ∨ x = 30 then 0 else stopF t + 1
theorem stopF_le : ∀ l : List UInt8, stopF l ≤ l.length
  | [] => Nat.le_refl _
  | x :: t => by
    have := stopF_le t
    unfold stopF
    by_cases h : x = 31 ∨ x = 30
    · rw [if_pos h]; omega
    · rw [if_neg h, List.length_cons]; omega
def subG (l : List UInt8) : Option (List Sub) :=
  if l.length = 0 ∨ l.getD 0 0 ≠ 31 then some []
  else if _h : l.length ≤ stopF (l.drop 2) + 2 then none
  else (subG (l.drop (stopF (l.drop 2) + 2))).map ((l.getD 1 0, (l.drop 2).take (stopF (l.drop 2))) :: ·)
termination_by l.length
decreasing_by
  rw [List.length_drop]
  omega
def fldG (tag b : List UInt8) : Option Fld := (subG (b.drop 6)).map fun L => ⟨tag, b.take 2, L, numF b 2 4⟩
def dirG (s : List UInt8) (base i : Nat) : Option (List Fld) :=
  if _h : base ≤ i + 12 then some []
  else if numF s (i + 3) 4 < 7 ∨ numF s (i + 7) 5 < 0 ∨ (s.length : Int) < (base : Int) + numF s (i + 7) 5 + numF s (i + 3) 4 then none
  else match fldG ((s.drop i).take 3) ((s.drop (base + (numF s (i + 7) 5).toNat)).take (numF s (i + 3) 4).toNat) with
  | none => none
  | some f => (dirG s base (i + 12)).map (f :: ·)
termination_by base - i
decreasing_by omega
def recG (s : List UInt8) : Option Rec :=
  if s.length < 26 then none
  else if numF s 11 5 < 25 ∨ (s.length : Int) < numF s 11 5 then none
  else (dirG s (numF s 11 5).toNat 24).map fun F => ⟨numF s 16 4, numF s 7 1, kindF (s.getD 6 0), (s.drop 8).take 3, F⟩
def decG (s : List UInt8) : Rec × Int :=
  match recG s with
  | none => (rec0, 3)
  | some r => if encX r = (s, 0) then (r, 0) else (rec0, 3)

theorem numF_at (s : List UInt8) (i n k : Nat) (t : List UInt8) (h : n < 10 ^ (k + 1)) (hs : s.drop i = padI n (k + 1) ++ t) : numF s i (k + 1) = n := by
  obtain ⟨n1, n2, _⟩ := num_at n k t h
  have hl := congrArg List.length hs
  rw [List.length_drop, List.length_append, pad_len n k h] at hl
  unfold numF
  rw [hs, n2, if_neg]
  rintro (g | g)
  · omega
  · rw [List.take_left' (pad_len n k h), pad_digits] at g
    cases g
theorem stop_at : ∀ (v t : List UInt8), (∀ b ∈ v, 32 ≤ b.toNat) → (∃ c r, t = c :: r ∧ (c = 31 ∨ c = 30)) → stopF (v ++ t) = v.length
  | [], t, _, ht => by
    obtain ⟨c, r, rfl, hc⟩ := ht
    rw [List.nil_append, stopF, if_pos hc]
    rfl
  | x :: v, t, h, ht => by
    have hx := h x (by simp)
    have := stop_at v t (fun b hb => h b (by simp [hb])) ht
    rw [List.cons_append, stopF, if_neg, this, List.length_cons]
    rintro (g | g) <;> (rw [g] at hx; exact absurd hx (by decide))
theorem subs_form (L : List Sub) (z : List UInt8) : ∃ c r, subsX L ++ 30 :: z = c :: r ∧ (c = 31 ∨ c = 30) := by
  cases L with
  | nil => exact ⟨30, z, rfl, .inr rfl⟩
  | cons s t => exact ⟨31, _, rfl, .inl rfl⟩
theorem subG_back : ∀ (L : List Sub), (∀ i, i < L.length → subE (L.getD i sub0) = 0) → subG (subsX L ++ [30]) = some L
  | [], _ => by
    show subG [30] = _
    rw [subG, if_pos]
    exact .inr (by decide)
  | s :: t, h => by
    obtain ⟨h1, h2, h3, h4⟩ := subE_zero s (h 0 (by simp))
    have hb := valid_byte _ h3
    have ih := subG_back t (fun i hi => h (i + 1) (by simpa using hi))
    have hst := stop_at s.2 (subsX t ++ [30]) hb (subs_form t [])
    have e : subsX (s :: t) ++ [30] = 31 :: s.1 :: (s.2 ++ (subsX t ++ [30])) := by simp [subsX, subX]
    have d2 : (31 :: s.1 :: (s.2 ++ (subsX t ++ [30]))).drop 2 = s.2 ++ (subsX t ++ [30]) := rfl
    rw [e, subG, if_neg (by simp), dif_neg]
    · rw [d2, hst, List.take_left' rfl]
      have : (31 :: s.1 :: (s.2 ++ (subsX t ++ [30]))).drop (s.2.length + 2) = subsX t ++ [30] := by
        show (s.2 ++ (subsX t ++ [30])).drop s.2.length = _
        exact List.drop_left' rfl
      rw [this, ih]
      rfl
    · rw [d2, hst]
      simp
theorem fldG_back (f : Fld) (h : rightI f = 0) : fldG f.tag (fldX f) = some f := by
  obtain ⟨ht, hi, h1, h16, hs, ha0, ha⟩ := right_facts f h
  have h2 := indsB_len _ hi
  have e : fldX f = f.ind ++ (padI f.auth.toNat 4 ++ (subsX f.subs ++ [30])) := by simp [fldX]
  have d2 : (fldX f).drop 2 = padI f.auth.toNat 4 ++ (subsX f.subs ++ [30]) := by rw [e]; exact List.drop_left' h2
  obtain ⟨_, _, n3⟩ := num_at f.auth.toNat 3 (subsX f.subs ++ [30]) (by omega)
  have d6 : (fldX f).drop 6 = subsX f.subs ++ [30] := by
    rw [show (6 : Nat) = 2 + 4 from rfl, ← List.drop_drop, d2]
    exact n3
  have t2 : (fldX f).take 2 = f.ind := by rw [e]; exact List.take_left' h2
  have hn := numF_at (fldX f) 2 f.auth.toNat 3 _ (by omega) d2
  unfold fldG
  rw [d6, subG_back f.subs hs, t2, hn]
  show some _ = some f
  congr 1
  have : ((f.auth.toNat : Nat) : Int) = f.auth := by omega
  rw [this]
theorem dir_len : ∀ (L : List Fld) (p : Nat), (∀ f ∈ L, rightI f = 0) → p + (bodX L).length < 100000 → (dirX p L).length = 12 * L.length
  | [], _, _, _ => rfl
  | f :: r, p, h, hp => by
    have e0 : (bodX (f :: r)).length = (fldX f).length + (bodX r).length := by simp [bodX]
    rw [e0] at hp
    have hr := h f (by simp)
    have hl := right_len f hr
    have ih := dir_len r (p + (fldX f).length) (fun g hg => h g (by simp [hg])) (by omega)
    have h3 := tagB_len _ (right_facts f hr).1
    have h4 := pad_len (fldX f).length 3 (by omega)
    have h5 := pad_len p 4 (by omega)
    simp only [dirX, List.length_append, h3, h4, h5, ih, List.length_cons]
    omega
theorem dirG_back (s : List UInt8) (base : Nat) : ∀ (L : List Fld) (p i : Nat) (t u : List UInt8), (∀ f ∈ L, rightI f = 0) → p + (bodX L).length < 100000 → s.drop i = dirX p L ++ 30 :: t → base = i + 12 * L.length + 1 → s.drop (base + p) = bodX L ++ u → dirG s base i = some L
  | [], p, i, t, u, _, _, _, hb, _ => by
    rw [dirG, dif_pos (by simp at hb; omega)]
  | f :: r, p, i, t, u, h, hp, hs, hb, hd => by
    have e0 : (bodX (f :: r)).length = (fldX f).length + (bodX r).length := by simp [bodX]
    rw [e0] at hp
    have hr := h f (by simp)
    have hl := right_len f hr
    have h3 := tagB_len _ (right_facts f hr).1
    rw [List.length_cons] at hb
    have e : s.drop i = f.tag ++ (padI (fldX f).length 4 ++ (padI p 5 ++ (dirX (p + (fldX f).length) r ++ 30 :: t))) := by rw [hs]; simp [dirX]
    have d3 : s.drop (i + 3) = padI (fldX f).length 4 ++ (padI p 5 ++ (dirX (p + (fldX f).length) r ++ 30 :: t)) := by
      rw [← List.drop_drop, e]; exact List.drop_left' h3
    have d7 : s.drop (i + 7) = padI p 5 ++ (dirX (p + (fldX f).length) r ++ 30 :: t) := by
      rw [show i + 7 = i + 3 + 4 from rfl, ← List.drop_drop, d3]
      exact List.drop_left' (pad_len (fldX f).length 3 (by omega))
    have d12 : s.drop (i + 12) = dirX (p + (fldX f).length) r ++ 30 :: t := by
      rw [show i + 12 = i + 7 + 5 from rfl, ← List.drop_drop, d7]
      exact List.drop_left' (pad_len p 4 (by omega))
    have t3 : (s.drop i).take 3 = f.tag := by rw [e]; exact List.take_left' h3
    have n1 := numF_at s (i + 3) (fldX f).length 3 _ (by omega) d3
    have n2 := numF_at s (i + 7) p 4 _ (by omega) d7
    have eb : bodX (f :: r) ++ u = fldX f ++ (bodX r ++ u) := by simp [bodX]
    rw [eb] at hd
    have hd2 : s.drop (base + (p + (fldX f).length)) = bodX r ++ u := by
      rw [← Nat.add_assoc, ← List.drop_drop, hd]
      exact List.drop_left' rfl
    have ih := dirG_back s base r (p + (fldX f).length) (i + 12) t u (fun g hg => h g (by simp [hg])) (by omega) d12 (by omega) hd2
    have hlen := congrArg List.length hd
    rw [List.length_drop, List.length_append] at hlen
    rw [dirG, dif_neg (by omega), n1, n2, if_neg (by omega), Int.toNat_natCast, Int.toNat_natCast, t3, hd, List.take_left' rfl, fldG_back f hr, ih]
    rfl
theorem kindF_back (k : Int) (h1 : 1 ≤ k) (h4 : k ≤ 4) : kindF (kindC k) = k := by
  have : k = 1 ∨ k = 2 ∨ k = 3 ∨ k = 4 := by omega
  rcases this with rfl | rfl | rfl | rfl <;> decide
theorem recG_back (r : Rec) (h : rightRI r = 0) (ht : totX r.fields ≤ 9999) : recG (formX r) = some r := by
  obtain ⟨a0, a1, a2, a3, a4, a5, a6, a7, a8⟩ := right_rec r h
  have h3 := lang_len _ a6
  have hb : baseX r.fields ≤ totX r.fields := by unfold totX; omega
  have hb2 : (bodX r.fields).length < 100000 := by unfold totX at ht; omega
  have hdl := dir_len r.fields 0 a8 (by omega)
  obtain ⟨X1, hX1⟩ : ∃ X, dirX 0 r.fields ++ 30 :: (bodX r.fields ++ [29]) = X := ⟨_, rfl⟩
  obtain ⟨X2, hX2⟩ : ∃ X, [52, 53, 48, 48] ++ X1 = X := ⟨_, rfl⟩
  obtain ⟨_, _, p3⟩ := num_at (totX r.fields) 4 (110 :: kindC r.kind :: (padI r.ver.toNat 1 ++ (r.lang ++ (padI (baseX r.fields) 5 ++ (padI r.id.toNat 4 ++ X2))))) (by omega)
  obtain ⟨v1, v2, v3⟩ := num_at r.ver.toNat 0 (r.lang ++ (padI (baseX r.fields) 5 ++ (padI r.id.toNat 4 ++ X2))) (by omega)
  obtain ⟨_, _, b3⟩ := num_at (baseX r.fields) 4 (padI r.id.toNat 4 ++ X2) (by omega)
  obtain ⟨i1, i2, i3⟩ := num_at r.id.toNat 3 X2 (by omega)
  have e : formX r = padI (totX r.fields) 5 ++ (110 :: kindC r.kind :: (padI r.ver.toNat 1 ++ (r.lang ++ (padI (baseX r.fields) 5 ++ (padI r.id.toNat 4 ++ X2))))) := by
    rw [← hX2, ← hX1]
    simp [formX, leadX]
  have hlen := formX_eq r h ht
  have htot : 26 ≤ totX r.fields := by unfold totX baseX; omega
  generalize formX r = Z at e hlen
  have d5 : Z.drop 5 = 110 :: kindC r.kind :: (padI r.ver.toNat 1 ++ (r.lang ++ (padI (baseX r.fields) 5 ++ (padI r.id.toNat 4 ++ X2)))) := by rw [e]; exact p3
  have d7 : Z.drop 7 = padI r.ver.toNat 1 ++ (r.lang ++ (padI (baseX r.fields) 5 ++ (padI r.id.toNat 4 ++ X2))) := by
    rw [show (7 : Nat) = 5 + 2 from rfl, ← List.drop_drop, d5]
    rfl
  have d8 : Z.drop 8 = r.lang ++ (padI (baseX r.fields) 5 ++ (padI r.id.toNat 4 ++ X2)) := by
    rw [show (8 : Nat) = 7 + 1 from rfl, ← List.drop_drop, d7]
    exact v3
  have d11 : Z.drop 11 = padI (baseX r.fields) 5 ++ (padI r.id.toNat 4 ++ X2) := by
    rw [show (11 : Nat) = 8 + 3 from rfl, ← List.drop_drop, d8]
    exact List.drop_left' h3
  have d16 : Z.drop 16 = padI r.id.toNat 4 ++ X2 := by
    rw [show (16 : Nat) = 11 + 5 from rfl, ← List.drop_drop, d11]
    exact b3
  have d24 : Z.drop 24 = X1 := by
    rw [show (24 : Nat) = 16 + 4 + 4 from rfl, ← List.drop_drop, ← List.drop_drop, d16, i3, ← hX2]
    rfl
  have g6 : Z.getD 6 0 = kindC r.kind := by
    have : (Z.drop 5).getD 1 0 = Z.getD 6 0 := by simp [List.getD_eq_getElem?_getD, List.getElem?_drop]
    rw [← this, d5]
    rfl
  have hbe : baseX r.fields = 24 + 12 * r.fields.length + 1 := by unfold baseX; rw [hdl]
  have dbase : Z.drop (baseX r.fields) = bodX r.fields ++ [29] := by
    rw [hbe, show 24 + 12 * r.fields.length + 1 = 24 + (12 * r.fields.length + 1) from rfl, ← List.drop_drop, d24, ← hX1, ← List.drop_drop, List.drop_left' hdl]
    rfl
  have n11 := numF_at Z 11 (baseX r.fields) 4 _ (by omega) d11
  have n16 := numF_at Z 16 r.id.toNat 3 _ (by omega) d16
  have n7 := numF_at Z 7 r.ver.toNat 0 _ (by omega) d7
  have hdir := dirG_back Z (baseX r.fields) r.fields 0 24 (bodX r.fields ++ [29]) [29] a8 (by omega) (by rw [d24, hX1]) hbe dbase
  unfold recG
  rw [n11, n16, n7, if_neg (by omega), if_neg (by omega), Int.toNat_natCast, hdir, g6, d8, List.take_left' h3, kindF_back _ a4 a5]
  show some _ = some r
  congr 1
  have q1 : ((r.id.toNat : Nat) : Int) = r.id := by omega
  have q2 : ((r.ver.toNat : Nat) : Int) = r.ver := by omega
  rw [q1, q2]
theorem decG_iff (s : List UInt8) (r : Rec) : decG s = (r, 0) ↔ encX r = (s, 0) := by
  constructor
  · intro h
    unfold decG at h
    cases e : recG s with
    | none =>
      rw [e] at h
      have := (Prod.mk.inj h).2
      cases this
    | some q =>
      rw [e] at h
      simp only at h
      by_cases hq : encX q = (s, 0)
      · rw [if_pos hq] at h
        obtain rfl := (Prod.mk.inj h).1
        exact hq
      · rw [if_neg hq] at h
        have := (Prod.mk.inj h).2
        cases this
  · intro h
    obtain ⟨h1, h2, rfl⟩ := enc_ok r s h
    unfold decG
    rw [recG_back r h1 h2]
    simp only
    rw [if_pos h]
theorem decG_bad (s : List UInt8) (h : ∀ r, encX r ≠ (s, 0)) : decG s = (rec0, 3) := by
  unfold decG
  cases e : recG s with
  | none => rfl
  | some q =>
    simp only
    rw [if_neg (h q)]
/-- Both ways of reading are one. -/
theorem dec_one' (s : List UInt8) : decG s = decE s := by
  by_cases h : ∃ r, encX r = (s, 0)
  · obtain ⟨r, h⟩ := h
    rw [(decG_iff s r).2 h, (decE_iff s r).2 h]
  · have h' : ∀ r, encX r ≠ (s, 0) := fun r g => h ⟨r, g⟩
    rw [decG_bad s h', decE_bad s h']

/-! Files. -/
def splitF (s : List UInt8) : Option (List (List UInt8)) :=
  if s.length = 0 then some []
  else if _h : numF s 0 5 < 26 ∨ (s.length : Int) < numF s 0 5 then none
  else (splitF (s.drop (numF s 0 5).toNat)).map (s.take (numF s 0 5).toNat :: ·)
termination_by s.length
decreasing_by
  rw [List.length_drop]
  omega
def splR (s : List UInt8) : List (List UInt8) × Int := match splitF s with
  | none => ([], 3)
  | some L => (L, 0)
def firstD : List (List UInt8) → Nat → List Rec × Int × Int
  | [], _ => ([], -1, 0)
  | p :: t, i => if (decE p).2 ≠ 0 then ([], (i : Int), (decE p).2) else match firstD t (i + 1) with
    | (L, k, e) => if e ≠ 0 then ([], k, e) else ((decE p).1 :: L, k, e)
def impR (s : List UInt8) : List Rec × Int × Int := match splitF s with
  | none => ([], -1, 3)
  | some P => if 64 < P.length then ([], -1, 13) else firstD P 0
def catX : List Rec → List UInt8 × Int
  | [] => ([], 0)
  | r :: t => if (encX r).2 ≠ 0 then ([], (encX r).2) else if (catX t).2 ≠ 0 then ([], (catX t).2) else ((encX r).1 ++ (catX t).1, 0)
def expR (L : List Rec) : List UInt8 × Int := if 64 < L.length then ([], 13) else if (catX L).2 ≠ 0 then ([], (catX L).2) else if 65536 < (catX L).1.length then ([], 4) else ((catX L).1, 0)
end

section
/-! strings.ReplaceAll. -/
theorem rep_hit (old new l : List UInt8) (h0 : old ≠ []) (h : old.isPrefixOf l = true) : Lib.replaceK old new (Lib.count l old) l = new ++ Lib.replaceK old new (Lib.count (l.drop old.length) old) (l.drop old.length) := by
  have hi : Lib.index l old = ((0 : Nat) : Int) := by
    cases l with
    | nil =>
      cases old with
      | nil => exact absurd rfl h0
      | cons _ _ => simp at h
    | cons b t => rw [Lib.index, if_pos h]; rfl
  rw [Lib.count_hit h0 hi, Nat.add_comm 1, Lib.replaceK_hit _ _ _ _ 0 hi, List.take_zero, List.nil_append, Nat.zero_add]
theorem rep_miss (old new l : List UInt8) (b : UInt8) (h0 : old ≠ []) (h : old.isPrefixOf (b :: l) = false) : Lib.replaceK old new (Lib.count (b :: l) old) (b :: l) = b :: Lib.replaceK old new (Lib.count l old) l := by
  have hn : ¬ (old.isPrefixOf (b :: l) = true) := by rw [h]; intro h; cases h
  rcases Int.lt_or_le (Lib.index l old) 0 with hneg | hp
  · have hm : Lib.index l old = -1 := by have := Lib.index_ge l old; omega
    have hi : Lib.index (b :: l) old = -1 := by
      rw [Lib.index, if_neg hn, hm]
      rfl
    rw [Lib.count_miss hm, Lib.count_miss hi]
    rfl
  · obtain ⟨i, hm⟩ : ∃ i : Nat, Lib.index l old = i := ⟨(Lib.index l old).toNat, by omega⟩
    have hi : Lib.index (b :: l) old = ((i + 1 : Nat) : Int) := by
      rw [Lib.index, if_neg hn, hm, if_neg]
      · rfl
      · intro h
        have := beq_iff_eq.1 h
        omega
    rw [Lib.count_hit h0 hm, Lib.count_hit h0 hi, Nat.add_comm 1, Nat.add_comm 1, Lib.replaceK_hit _ _ _ _ i hm, Lib.replaceK_hit _ _ _ _ (i + 1) hi]
    rw [show i + 1 + old.length = (i + old.length) + 1 by omega, List.take_succ_cons, List.drop_succ_cons, List.cons_append, List.cons_append]
theorem rep_nil (old new : List UInt8) (h0 : old ≠ []) : Lib.replaceK old new (Lib.count [] old) [] = [] := by
  have : Lib.index [] old = -1 := by
    rw [Lib.index, if_neg]
    cases old with
    | nil => exact absurd rfl h0
    | cons _ _ => simp
  rw [Lib.count_miss this]
  rfl
theorem rep_all (old new l : List UInt8) (hne : old ≠ new) : Lib.replaceAll l old new = Lib.replaceK old new (Lib.count l old) l := by
  unfold Lib.replaceAll Lib.replace Lib.replaceNum
  rw [if_neg, if_pos (Or.inl (by decide))]
  intro h
  exact hne (beq_iff_eq.1 h)
/-- One byte by a text. -/
def subL (c : UInt8) (d : List UInt8) (l : List UInt8) : List UInt8 := l.flatMap fun x => if x = c then d else [x]
theorem one_prefix (c b : UInt8) (l : List UInt8) : [c].isPrefixOf (b :: l) = decide (b = c) := by
  show (c == b && _) = _
  rw [show ([] : List UInt8).isPrefixOf l = true from by cases l <;> rfl, Bool.and_true]
  rw [Bool.eq_iff_iff, beq_iff_eq, decide_eq_true_iff]
  exact eq_comm
theorem sub_K (c : UInt8) (d : List UInt8) : ∀ l : List UInt8, Lib.replaceK [c] d (Lib.count l [c]) l = subL c d l
  | [] => rep_nil _ _ (by simp)
  | b :: l => by
    have ih := sub_K c d l
    unfold subL at ih ⊢
    rw [List.flatMap_cons]
    by_cases h : b = c
    · rw [rep_hit [c] d (b :: l) (by simp) (by rw [one_prefix]; exact decide_eq_true h), if_pos h]
      show d ++ Lib.replaceK [c] d (Lib.count l [c]) l = _
      rw [ih]
    · rw [rep_miss [c] d l b (by simp) (by rw [one_prefix]; exact decide_eq_false h), if_neg h, ih]
      rfl
theorem sub_all (c : UInt8) (d l : List UInt8) (hne : [c] ≠ d) : Lib.replaceAll l [c] d = subL c d l := by rw [rep_all _ _ _ hne, sub_K]
theorem sub_dbl : ∀ l : List UInt8, subL 36 [36, 36] l = dblL l
  | [] => rfl
  | x :: t => by
    have ih := sub_dbl t
    unfold subL at ih ⊢
    rw [List.flatMap_cons, ih, dblL]
    split <;> rfl
theorem sub_un : ∀ l : List UInt8, subL 35 [32] l = l.map unB
  | [] => rfl
  | x :: t => by
    have ih := sub_un t
    unfold subL at ih ⊢
    rw [List.flatMap_cons, ih, List.map_cons]
    unfold unB
    split <;> rfl
theorem sub_mark (a b : UInt8) : subL 32 [35] [a, b] = markB a ++ markB b := by
  unfold subL markB
  simp
/-- All bytes but the blanks are digits: of two bytes, each is a blank or a digit. -/
theorem sub_inds (a b : UInt8) : (subL 32 [] [a, b]).all digB = (indB a && indB b) := by
  have one : ∀ x : UInt8, (if x = 32 then ([] : List UInt8) else [x]).all digB = indB x := by
    intro x
    unfold indB
    by_cases h : x = 32
    · rw [if_pos h]; simp [h]
    · rw [if_neg h]; simp [h]
  show ((if a = 32 then ([] : List UInt8) else [a]) ++ ((if b = 32 then ([] : List UInt8) else [b]) ++ [])).all digB = _
  rw [List.append_nil, List.all_append, one a, one b]
theorem two_36 (x : UInt8) (l : List UInt8) (h : x ≠ 36) : [36, 36].isPrefixOf (x :: l) = false := by
  show ((36 : UInt8) == x && _) = false
  rw [beq_eq_false_iff_ne.2 (fun e => h e.symm), Bool.false_and]
theorem halve_K : ∀ v : List UInt8, Lib.replaceK [36, 36] [36] (Lib.count (dblL v) [36, 36]) (dblL v) = v
  | [] => rep_nil _ _ (by simp)
  | x :: t => by
    have ih := halve_K t
    rw [dblL]
    by_cases h : x = 36
    · rw [if_pos h, rep_hit [36, 36] [36] (36 :: 36 :: dblL t) (by simp) (by simp)]
      show [36] ++ Lib.replaceK [36, 36] [36] (Lib.count (dblL t) [36, 36]) (dblL t) = _
      rw [ih, h]
      rfl
    · rw [if_neg h, rep_miss [36, 36] [36] (dblL t) x (by simp) (two_36 x _ h), ih]
/-- Two dollars by one. -/
def halveL (l : List UInt8) : List UInt8 := Lib.replaceAll l [36, 36] [36]
theorem halve_dbl (v : List UInt8) : halveL (dblL v) = v := by
  unfold halveL
  rw [rep_all _ _ _ (by simp), halve_K]

/-! strings.Cut at a byte. -/
theorem index_one (c : UInt8) : ∀ l : List UInt8, c ∉ l → Lib.index l [c] = -1
  | [], _ => rfl
  | b :: l, h => by
    have hb : ¬ ([c].isPrefixOf (b :: l) = true) := by
      rw [one_prefix]
      simp only [List.mem_cons, not_or] at h
      rw [decide_eq_true_iff]
      exact fun e => h.1 e.symm
    rw [Lib.index, if_neg hb, index_one c l (fun h' => h (List.mem_cons_of_mem _ h'))]
    rfl
theorem index_at (c : UInt8) : ∀ (a r : List UInt8), c ∉ a → Lib.index (a ++ c :: r) [c] = (a.length : Int)
  | [], r, _ => by
    show Lib.index (c :: r) [c] = 0
    rw [Lib.index, if_pos (by rw [one_prefix]; simp)]
  | b :: a, r, h => by
    have hb : ¬ ([c].isPrefixOf (b :: (a ++ c :: r)) = true) := by
      rw [one_prefix]
      simp only [List.mem_cons, not_or] at h
      rw [decide_eq_true_iff]
      exact fun e => h.1 e.symm
    show Lib.index (b :: (a ++ c :: r)) [c] = _
    rw [Lib.index, if_neg hb, index_at c a r (fun h' => h (List.mem_cons_of_mem _ h')), if_neg]
    · simp
    · intro h
      have := beq_iff_eq.1 h
      omega
theorem cut_at (c : UInt8) (a r : List UInt8) (h : c ∉ a) : Lib.cut (a ++ c :: r) [c] = (a, r, true) := by
  unfold Lib.cut
  rw [index_at c a r h, if_pos (by omega)]
  simp
theorem cut_none (c : UInt8) (l : List UInt8) (h : c ∉ l) : Lib.cut l [c] = (l, [], false) := by
  unfold Lib.cut
  rw [index_one c l h, if_neg (by omega)]
theorem cut_le (l sep : List UInt8) : (Lib.cut l sep).1.length ≤ l.length ∧ (Lib.cut l sep).2.1.length ≤ l.length := by
  unfold Lib.cut
  split
  · simp; omega
  · simp

/-! strings.IndexByte. -/
theorem index_in (c : UInt8) (l : List UInt8) : decide (0 ≤ Lib.indexByte l c) = l.any (fun x => decide (x = c)) := by
  induction l with
  | nil => rfl
  | cons b l ih =>
    have hg := Lib.indexByte_ge l c
    rw [Lib.indexByte, List.any_cons]
    by_cases h : b = c
    · rw [if_pos (by rw [h]; simp), decide_eq_true h, Bool.true_or]
      rfl
    · rw [if_neg (by simpa using h), decide_eq_false h, Bool.false_or, ← ih]
      by_cases h1 : Lib.indexByte l c = -1
      · rw [if_pos (by rw [h1]; rfl), h1]
      · rw [if_neg (by simpa using h1), decide_eq_decide]
        omega

/-! strconv.Atoi. -/
/-- The number beside the error. -/
def atoiV (l : List UInt8) : Int := match Lib.atoiAll l with
  | .ok v => v
  | .range => Lib.atoiSat l
  | _ => 0
theorem parse_dec : ∀ (n : Nat) (r : List UInt8), n ≤ 99999 → Lib.parseUint10 0 (Lib.decDigits n ++ r) = Lib.parseUint10 n r := by
  intro n
  induction n using Nat.strongRecOn with
  | ind n ih =>
    intro r hn
    by_cases h : n < 10
    · rw [dec1 n h]
      show Lib.parseUint10 0 (dgt n :: r) = _
      rw [Lib.parseUint10, dgt_nat n (by omega), if_pos ⟨by omega, by omega⟩, if_neg (by omega), if_neg (by omega)]
      congr 1
      omega
    · rw [decS n h, List.append_assoc, ih (n / 10) (by omega) _ (by omega)]
      show Lib.parseUint10 (n / 10) (dgt (n % 10) :: r) = _
      rw [Lib.parseUint10, dgt_nat _ (by omega), if_pos ⟨by omega, by omega⟩, if_neg (by omega), if_neg (by omega)]
      congr 1
      omega
theorem dec_head : ∀ n : Nat, ∃ c t, Lib.decDigits n = c :: t ∧ 48 ≤ c.toNat ∧ c.toNat ≤ 57 := by
  intro n
  induction n using Nat.strongRecOn with
  | ind n ih =>
    by_cases h : n < 10
    · exact ⟨dgt n, [], dec1 n h, by rw [dgt_nat n (by omega)]; omega, by rw [dgt_nat n (by omega)]; omega⟩
    · obtain ⟨c, t, e, h1, h2⟩ := ih (n / 10) (by omega)
      exact ⟨c, t ++ [dgt (n % 10)], by rw [decS n h, e]; rfl, h1, h2⟩
theorem atoi_dec (n : Nat) (hn : n ≤ 99999) : atoiV (Lib.decDigits n) = (n : Int) := by
  obtain ⟨c, t, e, h1, h2⟩ := dec_head n
  have hp := parse_dec n [] hn
  rw [List.append_nil] at hp
  unfold atoiV Lib.atoiAll
  rw [e] at hp ⊢
  have hm : Lib.parseMag (c :: t) = .ok n := by
    unfold Lib.parseMag
    rw [if_neg (by simp), hp]
    rfl
  have n1 : ¬ (c.toNat = 43 ∨ c.toNat = 45) := by omega
  simp only [if_neg n1, hm]
  rw [if_neg (by omega), if_neg (by omega), if_neg (by omega)]
theorem atoi_nil : atoiV [] = 0 := rfl

/-! strings.Join. -/
theorem join_K (L : List (List UInt8)) : ∀ k, k ≤ L.length → joinK [32] L k = Lib.join (L.take k) [32]
  | 0, _ => by rw [List.take_zero]; rfl
  | k + 1, h => by
    have hk : k < L.length := by omega
    have e : L.take (k + 1) = L.take k ++ [L[k]] := List.take_succ_eq_append_getElem hk
    have eg : L.getD k [] = L[k] := by rw [List.getD_eq_getElem?_getD, List.getElem?_eq_getElem hk]; rfl
    rw [joinK]
    by_cases h0 : k = 0
    · subst h0
      rw [if_pos rfl, e, List.take_zero, List.nil_append, Lib.join_one, eg]
    · rw [if_neg h0, join_K L k (by omega), e, eg]
      obtain ⟨x, r, hx⟩ : ∃ x r, L.take k = x :: r := by
        cases hL : L.take k with
        | nil =>
          have := congrArg List.length hL
          rw [List.length_take, List.length_nil] at this
          omega
        | cons x r => exact ⟨x, r, rfl⟩
      rw [hx, List.cons_append, Lib.join_cons, Lib.join_cons]
      unfold Lib.joinTail
      simp
theorem join_plain (L : List (List UInt8)) : Lib.join L [32] = joinK [32] L L.length := by
  have := join_K L L.length (Nat.le_refl _)
  rw [List.take_length] at this
  exact this.symm

/-! The field that the program reads off a line. -/
/-- How long the value is with which this begins. -/
def vlen : List UInt8 → Nat
  | [] => 0
  | [c] => if c = 36 then 0 else 1
  | c :: d :: t => if c = 36 then (if d = 36 then vlen t + 2 else 0) else vlen (d :: t) + 1
theorem vlen_le : ∀ l : List UInt8, vlen l ≤ l.length
  | [] => Nat.le_refl _
  | [c] => by rw [vlen]; split <;> simp
  | c :: d :: t => by
    have h1 := vlen_le (d :: t)
    have h2 := vlen_le t
    rw [vlen]
    split
    · split
      · simp; omega
      · simp
    · simp at h1 ⊢; omega
theorem vlen_other (c : UInt8) (l : List UInt8) (h : c ≠ 36) : vlen (c :: l) = vlen l + 1 := by
  cases l with
  | nil =>
    show vlen [c] = 1
    unfold vlen
    rw [if_neg h]
  | cons d t => rw [vlen, if_neg h]
theorem vlen_two (t : List UInt8) : vlen (36 :: 36 :: t) = vlen t + 2 := by rw [vlen, if_pos rfl, if_pos rfl]
theorem vlen_end (l : List UInt8) (h : l = [] ∨ l = [36] ∨ ∃ d t, l = 36 :: d :: t ∧ d ≠ 36) : vlen l = 0 := by
  rcases h with rfl | rfl | ⟨d, t, rfl, h⟩
  · rfl
  · rw [vlen, if_pos rfl]
  · rw [vlen, if_pos rfl, if_neg h]
theorem vlen_dbl : ∀ (v r : List UInt8), (r = [] ∨ ∃ d t, r = 36 :: d :: t ∧ d ≠ 36) → vlen (dblL v ++ r) = (dblL v).length
  | [], r, h => vlen_end r (by rcases h with h | h; exact .inl h; exact .inr (.inr h))
  | x :: t, r, h => by
    rw [dblL]
    by_cases hx : x = 36
    · rw [if_pos hx, List.cons_append, List.cons_append, vlen_two, vlen_dbl t r h]
      simp
    · rw [if_neg hx, List.cons_append, vlen_other x _ hx, vlen_dbl t r h]
      simp
/-- The subfields, at most k of them. -/
def subsK : Nat → List UInt8 → List Sub
  | 0, _ => []
  | _ + 1, [] => []
  | _ + 1, [_] => []
  | k + 1, _ :: c :: r => (c, halveL (r.take (vlen r))) :: subsK k (r.drop (vlen r))
theorem subs_K : ∀ (L : List Sub) (k : Nat), L.length ≤ k → (∀ i, i < L.length → codeB (L.getD i sub0).1 = true) → subsK k (bodyL L) = L
  | [], 0, _, _ => rfl
  | [], k + 1, _, _ => rfl
  | s :: t, 0, h, _ => by simp at h
  | s :: t, k + 1, hk, h => by
    have e : bodyL (s :: t) = 36 :: s.1 :: (dblL s.2 ++ bodyL t) := by simp [bodyL, subP]
    have ht : ∀ i, i < t.length → codeB (t.getD i sub0).1 = true := fun i hi => h (i + 1) (by simpa using hi)
    rw [e, subsK, vlen_dbl s.2 _ (body_form t ht), List.take_left, List.drop_left, halve_dbl, subs_K t k (by simpa using hk) ht]
def readP (s : List UInt8) : Fld :=
  ⟨(Lib.cut (Lib.cut s [32]).1 [64]).1, (Lib.cut (Lib.cut s [32]).2.1 [32]).1.map unB, subsK 17 (Lib.cut (Lib.cut s [32]).2.1 [32]).2.1, atoiV (Lib.cut (Lib.cut s [32]).1 [64]).2.1⟩
theorem digs_not (l : List UInt8) (c : UInt8) (hc : digB c = false) (h : ∀ i, i < l.length → digB (l.getD i 0) = true) : c ∉ l := by
  intro hm
  obtain ⟨i, hi, he⟩ := List.getElem_of_mem hm
  have := h i hi
  rw [List.getD_eq_getElem?_getD, List.getElem?_eq_getElem hi] at this
  simp only [Option.getD_some, he, hc] at this
  cases this
theorem dec_digs (n : Nat) : ∀ x, x ∈ Lib.decDigits n → digB x = true := by
  induction n using Nat.strongRecOn with
  | ind n ih =>
    intro x hx
    by_cases h : n < 10
    · rw [dec1 n h] at hx
      simp only [List.mem_singleton] at hx
      rw [hx]
      exact dig_of n h
    · rw [decS n h, List.mem_append, List.mem_singleton] at hx
      rcases hx with hx | hx
      · exact ih (n / 10) (by omega) x hx
      · rw [hx]
        exact dig_of _ (Nat.mod_lt _ (by decide))
theorem readP_line (f : Fld) (h : rightI f = 0) : readP (lineL f) = f := by
  obtain ⟨htag, hind, hn1, hn16, hsub, ha0, ha1⟩ := right_facts f h
  have hcode : ∀ i, i < f.subs.length → codeB (f.subs.getD i sub0).1 = true := fun i hi => (subE_zero _ (hsub i hi)).1
  have h3 := tagB_len _ htag
  have h2 := indsB_len _ hind
  obtain ⟨tag, ind, subs, au⟩ := f
  have htd : ∀ x, x ∈ tag → digB x = true := by
    match tag, h3 with
    | [t0, t1, t2], _ =>
      unfold tagB at htag
      simp only [Bool.and_eq_true] at htag
      obtain ⟨⟨⟨⟨_, g0⟩, g1⟩, g2⟩, _⟩ := htag
      intro x hx
      simp only [List.mem_cons, List.not_mem_nil, or_false] at hx
      rcases hx with rfl | rfl | rfl
      · exact g0
      · exact g1
      · exact g2
  have nott : ∀ c : UInt8, digB c = false → c ∉ tag := fun c hc hm => by
    have := htd c hm
    rw [hc] at this
    cases this
  match ind, h2 with
  | [i0, i1], _ =>
    have hi0 : indB i0 = true := by
      unfold indsB at hind
      simp only [Bool.and_eq_true] at hind
      exact hind.1.2
    have hi1 : indB i1 = true := by
      unfold indsB at hind
      simp only [Bool.and_eq_true] at hind
      exact hind.2
    obtain ⟨d0, m0, n0, u0⟩ := mark_form i0 hi0
    obtain ⟨d1, m1, n1, u1⟩ := mark_form i1 hi1
    have e : lineL ⟨tag, [i0, i1], subs, au⟩ = (tag ++ authP au) ++ 32 :: ([d0, d1] ++ 32 :: bodyL subs) := by
      unfold lineL headL
      show tag ++ authP au ++ 32 :: (markB i0 ++ markB i1 ++ [32]) ++ bodyL subs = _
      rw [m0, m1]
      simp
    have hap : 32 ∉ authP au ∧ Lib.cut (tag ++ authP au) [64] = (tag, (if au = 0 then [] else Lib.decDigits au.toNat), !decide (au = 0)) := by
      unfold authP
      by_cases hz : au = 0
      · rw [if_pos hz, if_pos hz, List.append_nil, decide_eq_true hz]
        exact ⟨by simp, cut_none 64 tag (nott 64 (by decide))⟩
      · have hp := dec_pos au.toNat
        have ep : padL 1 (Lib.decDigits au.toNat) = Lib.decDigits au.toNat := by
          unfold padL
          rw [show 1 - (Lib.decDigits au.toNat).length = 0 by omega]
          rfl
        rw [if_neg hz, if_neg hz, ep, decide_eq_false hz]
        refine ⟨?_, cut_at 64 tag _ (nott 64 (by decide))⟩
        intro hm
        rcases List.mem_cons.1 hm with h | h
        · revert h; decide
        · have := dec_digs _ _ h
          revert this
          decide
    have hc1 : Lib.cut (lineL ⟨tag, [i0, i1], subs, au⟩) [32] = (tag ++ authP au, [d0, d1] ++ 32 :: bodyL subs, true) := by
      rw [e]
      refine cut_at 32 _ _ ?_
      rw [List.mem_append, not_or]
      exact ⟨nott 32 (by decide), hap.1⟩
    have hc2 : Lib.cut ([d0, d1] ++ 32 :: bodyL subs) [32] = ([d0, d1], bodyL subs, true) := by
      refine cut_at 32 _ _ ?_
      simp only [List.mem_cons, List.not_mem_nil, or_false, not_or]
      exact ⟨fun h => n0 h.symm, fun h => n1 h.symm⟩
    unfold readP
    rw [hc1]
    simp only [hc2, hap.2]
    rw [subs_K subs 17 (by simp only at hn16; omega) hcode]
    have hau : atoiV (if au = 0 then [] else Lib.decDigits au.toNat) = au := by
      by_cases hz : au = 0
      · rw [if_pos hz, hz]; rfl
      · simp only at ha0 ha1
        rw [if_neg hz, atoi_dec _ (by omega), Int.toNat_of_nonneg ha0]
    rw [hau]
    simp only [List.map_cons, List.map_nil, u0, u1]
theorem readP_none (s : List UInt8) (h : ¬ (rightI (readP s) = 0 ∧ lineL (readP s) = s)) : parseO s = none := by
  cases hp : parseO s with
  | none => rfl
  | some g =>
    obtain ⟨h1, h2⟩ := parse_sound s g hp
    have := readP_line g h1
    rw [h2] at this
    rw [this] at h
    exact absurd ⟨h1, h2⟩ h
theorem readP_some (s : List UInt8) (h : rightI (readP s) = 0 ∧ lineL (readP s) = s) : parseO s = some (readP s) := by
  have := parse_back (readP s) h.1
  rwa [h.2] at this
end

section
open Go.RowKit
set_option maxHeartbeats 1000000 in
theorem allowed_any (c : Nat) (hc : c ≤ 1114111) (b : Bool) (hb : allow c = b) (w : World) :
    Calls Tryd.prog 76 #[.int .i32 (c : Int)] w fun e w' => e = .returned (.bool b) ∧ w = w' := by
  have H := Lib.hid hb
  clear hb
  by_cases h1 : 32 ≤ c
  · by_cases h2 : c ≤ 126
    · obtain rfl : b = true := by have := H.out; rw [← this]; simp [allow, h1, h2]
      have d1 : decide ((32 : Int) ≤ (c : Int)) = true := by simp; omega
      have d2 : decide ((c : Int) ≤ 126) = true := by simp; omega
      clear H h1 h2
      go_enter Tryd.func76, Tryd.ntmps76
      go_wp2
      go_ret
      exact ⟨rfl, rfl⟩
    · by_cases h3 : 160 ≤ c
      · have d1 : decide ((32 : Int) ≤ (c : Int)) = true := by simp; omega
        have d2 : decide ((c : Int) ≤ 126) = false := by simp; omega
        have d3 : decide ((160 : Int) ≤ (c : Int)) = true := by simp; omega
        by_cases h4 : c ≤ 65535
        · obtain rfl : b = true := by have := H.out; rw [← this]; simp [allow, h3, h4]
          have d4 : decide ((c : Int) ≤ 65535) = true := by simp; omega
          clear H h1 h2 h3 h4
          go_enter Tryd.func76, Tryd.ntmps76
          go_wp2
          go_ret
          exact ⟨rfl, rfl⟩
        · obtain rfl : b = false := by have := H.out; rw [← this]; simp [allow, h2, h4]
          have d4 : decide ((c : Int) ≤ 65535) = false := by simp; omega
          clear H h1 h2 h3 h4
          go_enter Tryd.func76, Tryd.ntmps76
          go_wp2
          go_ret
          exact ⟨rfl, rfl⟩
      · obtain rfl : b = false := by have := H.out; rw [← this]; simp [allow, h2, h3]
        have d1 : decide ((32 : Int) ≤ (c : Int)) = true := by simp; omega
        have d2 : decide ((c : Int) ≤ 126) = false := by simp; omega
        have d3 : decide ((160 : Int) ≤ (c : Int)) = false := by simp; omega
        clear H h1 h2 h3
        go_enter Tryd.func76, Tryd.ntmps76
        go_wp2
        go_ret
        exact ⟨rfl, rfl⟩
  · obtain rfl : b = false := by have := H.out; rw [← this]; simp [allow]; omega
    have d1 : decide ((32 : Int) ≤ (c : Int)) = false := by simp; omega
    have d3 : decide ((160 : Int) ≤ (c : Int)) = false := by simp; omega
    clear H h1
    go_enter Tryd.func76, Tryd.ntmps76
    go_wp2
    go_ret
    exact ⟨rfl, rfl⟩
end

end Go.Proofs.YtiledacfdaenbaaDoor
