/- Merged: Env07, Plain11D, Rd11. -/
import Derived.Test.YtnfallkeicehiaaGreatDoorShelf
import Derived.Test.YtnfallkeicehiaaGreatDoorQ23
import Derived.Test.YtnfallkeicehiaaGreatDoorQ24
import Derived.Lib.LaidTab
import Derived.Lib.ConvBytes
import Derived.Lib.AtoiAllMem
import Derived.Test.YtnfallkeicehiaaGreatDoorQ11
import Derived.Lib.Split
import Derived.Test.YtnfallkeicehiaaGreatDoorQ15
import Derived.RegionTactic
namespace Go.Proofs.YtnfallkeicehiaaGreatDoor

section
open Go.RowKit
theorem Grow_below (w : World) (k : Nat) (os : Array Obj) : Below w.heap.size w (Sort.grow (w.drewN k) os) :=
  ⟨rfl, rfl, rfl, by simp [Sort.grow], fun i hi => Sort.heap_grow_old (w.drewN k) os hi⟩
theorem bytes_below (w : World) (e : TypeId) (s : ByteArray) : Below w.heap.size w (Lib.bytesWorld w e s) :=
  ⟨rfl, rfl, rfl, by rw [Lib.bytesWorld_size]; omega, fun i hi => Lib.bytesWorld_at_old w e s i hi⟩
theorem drewN_below (w : World) (n : Nat) : Below w.heap.size w (w.drewN n) := ⟨rfl, rfl, rfl, Nat.le_refl _, fun _ _ => rfl⟩

/-- The words for the kinds. -/
def kindsL : List (List UInt8) := [[98, 111, 111, 107], [115, 101, 114, 105, 97, 108], [109, 97, 112], [100, 105, 103, 105, 116, 97, 108]]
def KT (w : World) : Prop := 0 < w.heap.size ∧ ∀ i, i < 4 → w.cell? ⟨0, i, none⟩ = some (.string (S (kindsL.getD i [])))
theorem KT.after {w w' : World} (h : KT w) (hb : Below w.heap.size w w') : KT w' := ⟨Nat.lt_of_lt_of_le h.1 hb.size, fun i hi => (hb.cell (p := ⟨0, i, none⟩) h.1).trans (h.2 i hi)⟩
structure Env (w : World) : Prop where
  tabs : Tabs w
  pows : Lib.TabIs Tryz.prog w "internal/strconv.uint64pow10" .u64 Lib.pow10Tab
  most : ∃ m, w.cell? ⟨1, 0, none⟩ = some (.int .i64 m)
  syn : ∃ ev, w.cell? ⟨5, 0, none⟩ = some ev ∧ (ev = .nilIface ∨ ∃ te pe, ev = .iface te pe)
  ran : ∃ ev, w.cell? ⟨6, 0, none⟩ = some ev ∧ (ev = .nilIface ∨ ∃ te pe, ev = .iface te pe)
  kin : KT w
theorem tabIs_below {w w' : World} {n : String} {k : IntKind} {zs : List Int} (h : Lib.TabIs Tryz.prog w n k zs) (hb : Below w.heap.size w w') : Lib.TabIs Tryz.prog w' n k zs := by
  unfold Lib.TabIs World.var? at *
  cases hg : Tryz.prog.globalNamed n with
  | none => simp [hg] at h
  | some g =>
    simp only [hg, Option.bind_some] at h ⊢
    have hlt : g < w.heap.size := by
      rcases Nat.lt_or_ge g w.heap.size with h' | h'
      · exact h'
      · rw [Array.getElem?_eq_none h'] at h; simp at h
    rw [hb.block g hlt]
    exact h
theorem cell_below {w w' : World} {g : Nat} {v : Value} (h : w.cell? ⟨g, 0, none⟩ = some v) (hb : Below w.heap.size w w') : w'.cell? ⟨g, 0, none⟩ = some v := by
  have hlt : g < w.heap.size := by
    rcases Nat.lt_or_ge g w.heap.size with h' | h'
    · exact h'
    · simp [World.cell?, Array.getElem?_eq_none h'] at h
  exact (hb.cell (p := ⟨g, 0, none⟩) hlt).trans h
theorem Env.after {w w' : World} (h : Env w) (hb : Below w.heap.size w w') : Env w' := by
  obtain ⟨h1, h2, ⟨m, hm⟩, ⟨e1, h3, h4⟩, ⟨e2, h5, h6⟩, h7⟩ := h
  exact ⟨h1.after hb, tabIs_below h2 hb, ⟨m, cell_below hm hb⟩, ⟨e1, cell_below h3 hb, h4⟩, ⟨e2, cell_below h5 hb, h6⟩, h7.after hb⟩

/-- text.Valid. -/
theorem cValid (l : List UInt8) (hz : l.length ≤ 1000000) (b : Bool) (hb : validT l = b) (w : World) (hE : Env w) :
    Calls Tryz.prog 71 #[.string (S l)] w fun e w' => e = .returned (.bool b) ∧ Below w.heap.size w w' :=
  valid_is (S l) b hb (by rw [S_size]; omega) w hE.tabs
/-- strconv.Itoa at a number that is not negative. -/
theorem cItoa (n : Nat) (h : n ≤ 99999) (w : World) (hE : Env w) :
    Calls Tryz.prog 37 #[.int .i64 (n : Int)] w fun e w' => e = .returned (.string (S (Lib.decDigits n))) ∧ Below w.heap.size w w' :=
  (Tryz.strconv_Itoa (n : Int) (by omega) (by omega) w hE.pows).mono fun e w' hh => by
    obtain ⟨he, k, os, rfl⟩ := hh
    refine ⟨?_, Grow_below w k os⟩
    rw [he, Lib.itoa, if_neg (by omega), Int.toNat_natCast]
    rfl
/-- strconv.Atoi at every text. -/
theorem cAtoi (l : List UInt8) (hz : l.length ≤ 1000000) (w : World) (hE : Env w) :
    Calls Tryz.prog 63 #[.string (S l)] w fun e w' => ∃ er, e = .returned (.tuple #[.int .i64 (atoiV l), er]) ∧ Below w.heap.size w w' := by
  have hs : (S l).size ≤ 1000000 := by rw [S_size]; exact hz
  unfold atoiV
  obtain ⟨r, ha⟩ : ∃ r, Lib.atoiAll l = r := ⟨_, rfl⟩
  rw [ha]
  by_cases h1 : ∃ v, r = .ok v
  · obtain ⟨v, rfl⟩ := h1
    refine (Tryz.strconv_Atoi_ok (S l) (by omega) v ha w).mono fun e w' hh => ?_
    obtain ⟨he, hw⟩ := hh
    refine ⟨_, he, ?_⟩
    rcases hw with rfl | ⟨t, rfl⟩
    · exact Below.refl _ _
    · exact bytes_below _ _ _
  by_cases h2 : r = .range
  · subst h2
    obtain ⟨ev, g1, g2⟩ := hE.ran
    refine (Tryz.strconv_Atoi_range (S l) (by omega) ha ev w g1 g2).mono fun e w' hh => ?_
    obtain ⟨N, he, _, _, hb⟩ := hh
    exact ⟨_, he, hb⟩
  · obtain ⟨ev, g1, g2⟩ := hE.syn
    refine (Tryz.strconv_Atoi_syntax (S l) (by omega) ⟨fun v hv => h1 ⟨v, ha.symm.trans hv⟩, fun hv => h2 (ha.symm.trans hv)⟩ ev w g1 g2).mono fun e w' hh => ?_
    obtain ⟨N, he, _, _, hb⟩ := hh
    cases r
    case ok v => exact (h1 ⟨v, rfl⟩).elim
    case range => exact (h2 rfl).elim
    exact ⟨_, he, hb⟩
theorem count_le' (l d : List UInt8) : Lib.countB (S l) (S d) ≤ l.length + 1 := Lib.count_le l d
theorem cReplace (l old new r : List UInt8) (h0 : 1 ≤ old.length) (h2 : new.length ≤ 2) (hz : l.length ≤ 1000000) (hr : Lib.replaceAll l old new = r) (w : World) (hE : Env w) :
    Calls Tryz.prog 38 #[.string (S l), .string (S old), .string (S new)] w fun e w' => e = .returned (.string (S r)) ∧ Below w.heap.size w w' := by
  obtain ⟨m, hm⟩ := hE.most
  have hc := count_le' l old
  have hmul : Lib.countB (S l) (S old) * (S new).size ≤ (l.length + 1) * 2 := Nat.mul_le_mul hc (by rw [S_size]; exact h2)
  have h := Tryz.strings_ReplaceAll (S l) (S old) (S new) m w (by rw [S_size]; omega) hm (by rw [S_size]; exact h0) (by rw [S_size l]; omega)
  rw [show (S l).data.toList = l from rfl, show (S old).data.toList = old from rfl, show (S new).data.toList = new from rfl, hr] at h
  exact h
/-- A blank by nothing. -/
theorem cStrike (l : List UInt8) (hz : l.length ≤ 1000000) (w : World) (hE : Env w) :
    Calls Tryz.prog 38 #[.string (S l), .string ⟨#[32]⟩, .string ⟨#[]⟩] w fun e w' => e = .returned (.string (S (subL 32 [] l))) ∧ Below w.heap.size w w' :=
  cReplace l [32] [] _ (by simp) (by simp) hz (sub_all 32 [] l (by simp)) w hE
/-- A blank by a mark. -/
theorem cMark (l : List UInt8) (hz : l.length ≤ 1000000) (w : World) (hE : Env w) :
    Calls Tryz.prog 38 #[.string (S l), .string ⟨#[32]⟩, .string ⟨#[35]⟩] w fun e w' => e = .returned (.string (S (subL 32 [35] l))) ∧ Below w.heap.size w w' :=
  cReplace l [32] [35] _ (by simp) (by simp) hz (sub_all 32 [35] l (by simp)) w hE
/-- A mark by a blank. -/
theorem cUnmark (l : List UInt8) (hz : l.length ≤ 1000000) (w : World) (hE : Env w) :
    Calls Tryz.prog 38 #[.string (S l), .string ⟨#[35]⟩, .string ⟨#[32]⟩] w fun e w' => e = .returned (.string (S (l.map unB))) ∧ Below w.heap.size w w' :=
  cReplace l [35] [32] _ (by simp) (by simp) hz ((sub_all 35 [32] l (by simp)).trans (sub_un l)) w hE
/-- A dollar by two. -/
theorem cDouble (l : List UInt8) (hz : l.length ≤ 1000000) (w : World) (hE : Env w) :
    Calls Tryz.prog 38 #[.string (S l), .string ⟨#[36]⟩, .string ⟨#[36, 36]⟩] w fun e w' => e = .returned (.string (S (dblL l))) ∧ Below w.heap.size w w' :=
  cReplace l [36] [36, 36] _ (by simp) (by simp) hz ((sub_all 36 [36, 36] l (by simp)).trans (sub_dbl l)) w hE
/-- Two dollars by one. -/
theorem cHalve (l : List UInt8) (hz : l.length ≤ 1000000) (w : World) (hE : Env w) :
    Calls Tryz.prog 38 #[.string (S l), .string ⟨#[36, 36]⟩, .string ⟨#[36]⟩] w fun e w' => e = .returned (.string (S (halveL l))) ∧ Below w.heap.size w w' :=
  cReplace l [36, 36] [36] _ (by simp) (by simp) hz rfl w hE
/-- strings.Cut at a byte. -/
theorem cCut (l : List UInt8) (c : UInt8) (hz : l.length ≤ 1000000) (a b : List UInt8) (t : Bool) (h : Lib.cut l [c] = (a, b, t)) (w : World) (hE : Env w) :
    Calls Tryz.prog 47 #[.string (S l), .string (S [c])] w fun e w' => e = .returned (.tuple #[.string (S a), .string (S b), .bool t]) ∧ Below w.heap.size w w' := by
  obtain ⟨m, hm⟩ := hE.most
  refine (Tryz.strings_Cut (S l) (S [c]) m w (by rw [S_size]; omega) hm).mono fun e w' hh => ?_
  obtain ⟨he, n, rfl⟩ := hh
  refine ⟨?_, drewN_below w n⟩
  rw [he, show (S l).data.toList = l from rfl, show (S [c]).data.toList = [c] from rfl, h]
  rfl
/-- strings.HasPrefix. -/
theorem cPrefix (l p : List UInt8) (b : Bool) (hb : Lib.hasPrefix l p = b) (w : World) :
    Calls Tryz.prog 116 #[.string (S l), .string (S p)] w fun e w' => e = .returned (.bool b) ∧ w' = w := by
  have h := Tryz.strings_HasPrefix (S l) (S p) w
  rw [show (S l).data.toList = l from rfl, show (S p).data.toList = p from rfl, hb] at h
  exact h
/-- strings.TrimPrefix. -/
theorem cTrimP (l p : List UInt8) (w : World) :
    Calls Tryz.prog 62 #[.string (S l), .string (S p)] w fun e w' => e = .returned (.string (S (Lib.trimPrefix l p))) ∧ w' = w :=
  Tryz.strings_TrimPrefix (S l) (S p) w
/-- strings.SplitN at a byte. -/
theorem cSplitN (l : List UInt8) (c : UInt8) (n : Nat) (hn : 1 ≤ n) (hn2 : n ≤ 100) (hz : l.length ≤ 1000000) (w : World) (hE : Env w) :
    Calls Tryz.prog 61 #[.string (S l), .string (S [c]), .int .i64 n] w fun e w' => ∃ P : List (List UInt8), P = Lib.splitK [c] 0 (min n (l.length + 1) - 1) l ∧ ∃ N, P.length ≤ N ∧ N ≤ 100 ∧
      e = .returned (.slice (some ⟨w.heap.size, 0, none⟩) P.length N) ∧ w' = w.alloc (.cells (P.map strB ++ List.replicate (N - P.length) (Value.string ⟨#[]⟩)).toArray 9) := by
  obtain ⟨m, hm⟩ := hE.most
  refine (Tryz.strings_SplitN (S l) (S [c]) n m w (by rw [S_size]; omega) hm (by rw [S_size]; simp) hn (by omega)).mono fun e w' hh => ?_
  obtain ⟨he, hw⟩ := hh
  rw [S_size] at he hw
  have hd := Lib.splitB_data (S [c]) 0 (min n (l.length + 1) - 1) (S l)
  have hd : (Lib.splitB (S [c]) 0 (min n (l.length + 1) - 1) (S l)).map (·.data.toList) = Lib.splitK [c] 0 (min n (l.length + 1) - 1) l := hd
  have hle := Lib.splitB_length_le (S [c]) 0 (min n (l.length + 1) - 1) (S l)
  refine ⟨_, hd, min n (l.length + 1), ?_, ?_, ?_, ?_⟩
  · rw [List.length_map]; omega
  · omega
  · rw [he, List.length_map]
  · rw [hw, List.length_map]
    unfold Lib.cellsOf
    rw [List.map_map]
    rfl
end

section
/-! Texts cut at one byte. -/
theorem index_app (c : UInt8) : ∀ (x t : List UInt8), (∀ b ∈ x, b ≠ c) → Lib.index (x ++ c :: t) [c] = ((x.length : Nat) : Int)
  | [], t, _ => index_cons_eq c t
  | b :: x, t, h => by
    have ih := index_app c x t (fun d hd => h d (by simp [hd]))
    rw [List.cons_append, index_cons_ne b c _ (h b (by simp)), ih, if_neg (by omega), List.length_cons]
    omega
theorem split_app (c : UInt8) (k : Nat) (x t : List UInt8) (h : ∀ b ∈ x, b ≠ c) : Lib.splitK [c] 0 (k + 1) (x ++ c :: t) = x :: Lib.splitK [c] 0 k t := by
  rw [Lib.splitK, index_app c x t h, if_neg (by simp only [beq_iff_eq]; omega), Int.toNat_natCast, Nat.add_zero, List.take_left]
  have e : x ++ c :: t = (x ++ [c]) ++ t := by simp
  rw [e, show x.length + [c].length = (x ++ [c]).length by simp, List.drop_left]
theorem ln_cut : ∀ s : List UInt8, Lib.cut s [10] = (lnL s, lnR s, lnE s)
  | [] => rfl
  | c :: t => by
    have ih := ln_cut t
    unfold Lib.cut at ih ⊢
    by_cases h : c = 10
    · subst h
      rw [index_cons_eq, if_pos (by omega), lnL, lnR, lnE, if_pos rfl, if_pos rfl, if_pos rfl]
      rfl
    · rw [index_cons_ne c 10 t h, lnL, lnR, lnE, if_neg h, if_neg h, if_neg h]
      by_cases g : Lib.index t [10] = -1
      · rw [g] at ih ⊢
        rw [if_neg (by omega)] at ih
        rw [if_pos rfl, if_neg (by omega)]
        simp only [Prod.mk.injEq] at ih ⊢
        exact ⟨by rw [← ih.1], ih.2.1, ih.2.2⟩
      · have hge := Lib.index_ge t [10]
        obtain ⟨i, hi⟩ : ∃ i : Nat, Lib.index t [10] = i := ⟨(Lib.index t [10]).toNat, by omega⟩
        rw [hi] at ih ⊢
        rw [if_pos (by omega)] at ih
        rw [if_neg (show ¬ ((i : Int) = -1) by omega), if_pos (by omega)]
        simp only [Prod.mk.injEq] at ih ⊢
        refine ⟨?_, ?_, ih.2.2⟩
        · rw [← ih.1, show ((i : Int) + 1).toNat = i + 1 by omega, List.take_succ_cons, Int.toNat_natCast]
        · rw [← ih.2.1, show ((i : Int) + 1).toNat = i + 1 by omega, Int.toNat_natCast]
          rfl

/-! The header by its parts. -/
def restH (l : List UInt8) : List UInt8 := Lib.trimPrefix l [61]
def partsH (l : List UInt8) : List (List UInt8) := Lib.splitK [32] 0 (min 4 ((restH l).length + 1) - 1) (restH l)
def kindN (w : List UInt8) : Int := if w = kindW 1 then 1 else if w = kindW 2 then 2 else if w = kindW 3 then 3 else if w = kindW 4 then 4 else 0
theorem kindN_of (k : Int) (h1 : 1 ≤ k) (h4 : k ≤ 4) : kindN (kindW k) = k := by
  obtain rfl | rfl | rfl | rfl : k = 1 ∨ k = 2 ∨ k = 3 ∨ k = 4 := by omega
  all_goals decide
theorem kindW_byte (k : Int) : ∀ b ∈ kindW k, b ≠ 32 := by
  unfold kindW
  split
  · decide
  · split
    · decide
    · split <;> decide
theorem dec_blank (n : Nat) : ∀ b ∈ Lib.decDigits n, b ≠ 32 := by
  intro b hb e
  have := (dec_byte n b hb).1
  rw [e] at this
  exact absurd this (by decide)
/-- The record that the parts say. -/
def recH (a b c d : List UInt8) : Rec := ⟨atoiV a, atoiV b, kindN c, d, []⟩
theorem hdr_parts (r : Rec) (h : rightRI r = 0) (hf : r.fields = []) : ∃ a b c d, partsH (hdrR r) = [a, b, c, d] ∧ recH a b c d = r := by
  obtain ⟨a1, a2, a3, a4, a5, a6, a7, _, _⟩ := right_rec r h
  have hp := dec_pos r.id.toNat
  have hp2 := dec_pos r.ver.toNat
  have h3 := lang_len _ a7
  have hrest : restH (hdrR r) = Lib.decDigits r.id.toNat ++ 32 :: (Lib.decDigits r.ver.toNat ++ 32 :: (kindW r.kind ++ 32 :: r.lang)) := by
    unfold restH Lib.trimPrefix hdrR hdrX midX Lib.hasPrefix
    rw [if_pos (by simp)]
    simp
  refine ⟨Lib.decDigits r.id.toNat, Lib.decDigits r.ver.toNat, kindW r.kind, r.lang, ?_, ?_⟩
  · unfold partsH
    rw [hrest, show min 4 ((Lib.decDigits r.id.toNat ++ 32 :: (Lib.decDigits r.ver.toNat ++ 32 :: (kindW r.kind ++ 32 :: r.lang))).length + 1) - 1 = 3 by
      simp only [List.length_append, List.length_cons, h3]
      omega, split_app 32 2 _ _ (dec_blank _), split_app 32 1 _ _ (dec_blank _), split_app 32 0 _ _ (kindW_byte _)]
    rfl
  · unfold recH
    rw [atoi_dec _ (by omega), atoi_dec _ (by omega), kindN_of _ a5 a6, show ((r.id.toNat : Nat) : Int) = r.id by omega, show ((r.ver.toNat : Nat) : Int) = r.ver by omega, ← hf]
theorem partsH_le (l : List UInt8) : (partsH l).length ≤ 4 := by
  have h : ∀ (k : Nat) (s : List UInt8), (Lib.splitK [32] 0 k s).length ≤ k + 1 := by
    intro k
    induction k with
    | zero => intro s; exact Nat.le_refl _
    | succ k ih =>
      intro s
      rw [Lib.splitK]
      split
      · simp
      · have := ih (s.drop ((Lib.index s [32]).toNat + [32].length))
        rw [List.length_cons]
        omega
  have := h (min 4 ((restH l).length + 1) - 1) (restH l)
  unfold partsH
  omega
/-- Fewer parts: no header. -/
theorem hdr_few (l : List UInt8) (h : (partsH l).length < 4) : hdrO l = none := by
  cases e : hdrO l with
  | none => rfl
  | some r =>
    obtain ⟨h1, h2, h3⟩ := hdrO_sound l r e
    obtain ⟨a, b, c, d, hp, _⟩ := hdr_parts r h1 h3
    rw [h2] at hp
    rw [hp] at h
    simp at h
theorem hdr_yes (l a b c d : List UInt8) (h : rightRI (recH a b c d) = 0) (h2 : hdrR (recH a b c d) = l) : hdrO l = some (recH a b c d) := by
  rw [← h2]
  exact hdrO_back _ h rfl
theorem hdr_not (l a b c d : List UInt8) (hp : partsH l = [a, b, c, d]) (h : ¬ (rightRI (recH a b c d) = 0 ∧ hdrR (recH a b c d) = l)) : hdrO l = none := by
  cases e : hdrO l with
  | none => rfl
  | some r =>
    obtain ⟨h1, h2, h3⟩ := hdrO_sound l r e
    obtain ⟨a', b', c', d', hp', hr⟩ := hdr_parts r h1 h3
    rw [h2, hp] at hp'
    simp only [List.cons.injEq, and_true] at hp'
    obtain ⟨rfl, rfl, rfl, rfl⟩ := hp'
    rw [hr] at h
    exact absurd ⟨h1, h2⟩ h
theorem splitK_len : ∀ (k : Nat) (s x : List UInt8), x ∈ Lib.splitK [32] 0 k s → x.length ≤ s.length
  | 0, s, x, h => by
    rw [List.mem_singleton.1 h]
    exact Nat.le_refl _
  | k + 1, s, x, h => by
    rw [Lib.splitK] at h
    split at h
    · rw [List.mem_singleton.1 h]
      exact Nat.le_refl _
    · rcases List.mem_cons.1 h with rfl | h
      · rw [List.length_take]
        omega
      · have := splitK_len k _ x h
        rw [List.length_drop] at this
        omega
theorem restH_le (l : List UInt8) : (restH l).length ≤ l.length := by
  unfold restH Lib.trimPrefix
  split
  · rw [List.length_drop]; omega
  · exact Nat.le_refl _
theorem partsH_mem (l x : List UInt8) (h : x ∈ partsH l) : x.length ≤ l.length := Nat.le_trans (splitK_len _ _ _ h) (restH_le l)
end

section
open Go.RowKit Go.PlainAid
theorem kindN_at : ∀ k, k < 4 → kindN (kindsL.getD k []) = (k : Int) + 1 := by
  intro k hk
  obtain rfl | rfl | rfl | rfl : k = 0 ∨ k = 1 ∨ k = 2 ∨ k = 3 := by omega
  all_goals decide
theorem kindN_none (l : List UInt8) (h : ∀ j, j < 4 → kindsL.getD j [] ≠ l) : kindN l = 0 := by
  have h0 := h 0 (by omega)
  have h1 := h 1 (by omega)
  have h2 := h 2 (by omega)
  have h3 := h 3 (by omega)
  unfold kindN
  rw [if_neg (fun e => h0 (by rw [e]; decide)), if_neg (fun e => h1 (by rw [e]; decide)), if_neg (fun e => h2 (by rw [e]; decide)), if_neg (fun e => h3 (by rw [e]; decide))]
set_option maxHeartbeats 8000000 in
theorem kindOf_any (l : List UInt8) (n : Int) (hn : kindN l = n) (w : World) (hK : KT w) :
    Calls Tryz.prog 64 #[.string (S l)] w fun e w' => e = .returned (.int .i64 n) ∧ w' = w := by
  obtain ⟨k0, hk0⟩ : ∃ k, S (kindsL.getD 0 []) = k := ⟨_, rfl⟩
  obtain ⟨k1, hk1⟩ : ∃ k, S (kindsL.getD 1 []) = k := ⟨_, rfl⟩
  obtain ⟨k2, hk2⟩ : ∃ k, S (kindsL.getD 2 []) = k := ⟨_, rfl⟩
  obtain ⟨k3, hk3⟩ : ∃ k, S (kindsL.getD 3 []) = k := ⟨_, rfl⟩
  have t0 := hK.2 0 (by omega)
  have t1 := hK.2 1 (by omega)
  have t2 := hK.2 2 (by omega)
  have t3 := hK.2 3 (by omega)
  have q0 := S_eq (kindsL.getD 0 []) l
  have q1 := S_eq (kindsL.getD 1 []) l
  have q2 := S_eq (kindsL.getD 2 []) l
  have q3 := S_eq (kindsL.getD 3 []) l
  rw [hk0] at t0 q0
  rw [hk1] at t1 q1
  rw [hk2] at t2 q2
  rw [hk3] at t3 q3
  have ix0 : ∀ W, Sem.run Tryz.prog (Instr.index 74 (.agg #[.string k0, .string k1, .string k2, .string k3]) (.int .i64 0)) W = .ok (.string k0) W := fun W => by kernel_rfl
  have ix1 : ∀ W, Sem.run Tryz.prog (Instr.index 74 (.agg #[.string k0, .string k1, .string k2, .string k3]) (.int .i64 1)) W = .ok (.string k1) W := fun W => by kernel_rfl
  have ix2 : ∀ W, Sem.run Tryz.prog (Instr.index 74 (.agg #[.string k0, .string k1, .string k2, .string k3]) (.int .i64 2)) W = .ok (.string k2) W := fun W => by kernel_rfl
  have ix3 : ∀ W, Sem.run Tryz.prog (Instr.index 74 (.agg #[.string k0, .string k1, .string k2, .string k3]) (.int .i64 3)) W = .ok (.string k3) W := fun W => by kernel_rfl
  have HHit : RowKit.Hid (∀ k, k < 4 → kindsL.getD k [] = l → n = (k : Int) + 1) := by
    intro k hk h
    rw [← hn, ← h]
    exact kindN_at k hk
  have HMiss : RowKit.Hid ((∀ j, j < 4 → kindsL.getD j [] ≠ l) → n = 0) := by
    intro h
    rw [← hn]
    exact kindN_none l h
  have HQ0 := Lib.hid q0
  have HQ1 := Lib.hid q1
  have HQ2 := Lib.hid q2
  have HQ3 := Lib.hid q3
  clear hk0 hk1 hk2 hk3 hn hK q0 q1 q2 q3
  generalize S l = s at *
  go_enter Tryz.func64, Tryz.ntmps64
  go_wp2
  go_loopw [6] (fun i wr => ∃ k : Nat, k ≤ 4 ∧ i = .int .i64 (k : Int) ∧ RowKit.Hid (∀ j, j < k → kindsL.getD j [] ≠ l) ∧ w = wr) (fun i _ => 4 - (intOf i).toNat)
  case atStart => exact ⟨0, by omega, rfl, (fun j hj => by omega), rfl⟩
  case round =>
    obtain ⟨k, hk, rfl, HJ, rfl⟩ := hrel
    by_cases hk4 : k < 4
    · obtain ⟨b, hb⟩ : ∃ b, decide (kindsL.getD k [] = l) = b := ⟨_, rfl⟩
      have HB := Lib.hid hb
      have HJ2 : RowKit.Hid (b = false → ∀ j, j < k + 1 → kindsL.getD j [] ≠ l) := by
        intro h j hj
        rcases Nat.lt_or_ge j k with h1 | h1
        · exact HJ.out j h1
        · obtain rfl : j = k := by omega
          rw [h] at hb
          exact of_decide_eq_false hb
      have HH : RowKit.Hid (b = true → n = (k : Int) + 1) := by
        intro h
        rw [h] at hb
        exact HHit.out k hk4 (of_decide_eq_true hb)
      clear hb HHit HMiss
      obtain rfl | rfl | rfl | rfl : k = 0 ∨ k = 1 ∨ k = 2 ∨ k = 3 := by omega
      · have q := HQ0.out
        rw [HB.out] at q
        cases b with
        | true =>
          have hn := HH.out rfl
          subst hn
          go_wp2
          go_ret
          exact ⟨rfl, rfl⟩
        | false =>
          go_wp2
          go_roundw
          case rel => exact ⟨1, by omega, by go_num, HJ2.out rfl, by first | rfl | trivial⟩
          case measure => simp [intOf]
      · have q := HQ1.out
        rw [HB.out] at q
        cases b with
        | true =>
          have hn := HH.out rfl
          subst hn
          go_wp2
          go_ret
          exact ⟨rfl, rfl⟩
        | false =>
          go_wp2
          go_roundw
          case rel => exact ⟨2, by omega, by go_num, HJ2.out rfl, by first | rfl | trivial⟩
          case measure => simp [intOf]
      · have q := HQ2.out
        rw [HB.out] at q
        cases b with
        | true =>
          have hn := HH.out rfl
          subst hn
          go_wp2
          go_ret
          exact ⟨rfl, rfl⟩
        | false =>
          go_wp2
          go_roundw
          case rel => exact ⟨3, by omega, by go_num, HJ2.out rfl, by first | rfl | trivial⟩
          case measure => simp [intOf]
      · have q := HQ3.out
        rw [HB.out] at q
        cases b with
        | true =>
          have hn := HH.out rfl
          subst hn
          go_wp2
          go_ret
          exact ⟨rfl, rfl⟩
        | false =>
          go_wp2
          go_roundw
          case rel => exact ⟨4, by omega, by go_num, HJ2.out rfl, by first | rfl | trivial⟩
          case measure => simp [intOf]
    · obtain rfl : k = 4 := by omega
      have h0 := HMiss.out HJ.out
      subst h0
      go_wp2
      go_ret
      exact ⟨rfl, rfl⟩

/-! A reader. -/
/-- A reader lies in block b: the text that is left, the number of the last line that was read. -/
def Rd (b : Nat) (l : List UInt8) (k : Nat) (w : World) : Prop := w.heap[b]? = some (.cells #[.string (S l), .int .i64 (k : Int)] 61 (0, 0))
theorem Rd.lt {b k : Nat} {l : List UInt8} {w : World} (h : Rd b l k w) : b < w.heap.size := (Array.getElem?_eq_some_iff.1 h).1
theorem Rd.after {b k : Nat} {l : List UInt8} {w w' : World} (h : Rd b l k w) (hb : Below w.heap.size w w') : Rd b l k w' := (hb.block b h.lt).trans h
theorem Rd.cells {b k : Nat} {l : List UInt8} {w : World} (h : Rd b l k w) :
    (w.cell? ⟨b, 0, none⟩ = some (.string (S l)) ∧ w.cell? ⟨b, 1, none⟩ = some (.int .i64 (k : Int))) ∧ (w.frozen? ⟨b, 0, none⟩ = false ∧ w.frozen? ⟨b, 1, none⟩ = false) := by
  refine ⟨⟨?_, ?_⟩, Lib.frozen_of_heap h 0, Lib.frozen_of_heap h 1⟩ <;> (rw [Lib.cell_of_heap h]; rfl)
/-- What a call leaves that may write into one block only. -/
structure Up (b : Nat) (w w' : World) : Prop where
  os : w'.os = w.os
  tape : w'.tape = w.tape
  output : w'.output = w.output
  size : w.heap.size ≤ w'.heap.size
  block : ∀ i, i < w.heap.size → i ≠ b → w'.heap[i]? = w.heap[i]?
theorem Up.of {b : Nat} {w w' : World} (h : Below w.heap.size w w') : Up b w w' := ⟨h.os, h.tape, h.output, h.size, fun i hi _ => h.block i hi⟩
theorem Up.trans {b : Nat} {w w' w2 : World} (h : Up b w w') (k : Up b w' w2) : Up b w w2 :=
  ⟨k.os.trans h.os, k.tape.trans h.tape, k.output.trans h.output, Nat.le_trans h.size k.size, fun i hi hne => (k.block i (Nat.lt_of_lt_of_le hi h.size) hne).trans (h.block i hi hne)⟩
theorem Up.below {b N : Nat} {w0 w w' : World} (h : Up b w w') (hB : Below N w0 w) (hN : N ≤ w.heap.size) (hb : N ≤ b) : Below N w0 w' :=
  hB.trans ⟨h.os, h.tape, h.output, h.size, fun i hi => h.block i (by omega) (by omega)⟩
theorem Up.put {b : Nat} {w w' : World} (h : Up b w w') (o : Nat) (v : Value) : Up b w (w'.setCell ⟨b, o, none⟩ v) :=
  ⟨h.os, h.tape, h.output, by simpa [World.setCell] using h.size, fun i hi hne => (heap_setn w' ⟨b, o, none⟩ v i hne).trans (h.block i hi hne)⟩
theorem rd_set {b k : Nat} {l t : List UInt8} {w : World} (h : Rd b l k w) : Rd b t (k + 1) ((w.setCell ⟨b, 0, none⟩ (.string (S t))).setCell ⟨b, 1, none⟩ (.int .i64 ((k : Int) + 1))) := by
  unfold Rd at h ⊢
  have e : (((k + 1 : Nat)) : Int) = (k : Int) + 1 := by omega
  rw [e]
  simp [World.setCell, Array.getElem?_modify, h]
set_option maxHeartbeats 8000000 in
theorem next_any (W0 : World) (hE : Env W0) (b : Nat) (l : List UInt8) (hl : l.length ≤ 1000000) (k : Nat) (hk : k ≤ 1000000000) (w : World) (hB : Below W0.heap.size W0 w) (h : Rd b l k w) :
    Calls Tryz.prog 30 #[.pointer (some ⟨b, 0, none⟩)] w fun e w' => e = .returned (.tuple #[.string (S (lnL l)), .bool (lnE l)]) ∧ Rd b (lnR l) (k + 1) w' ∧ Up b w w' := by
  have cC := Lib.hid (cCut l 10 hl (lnL l) (lnR l) (lnE l) (ln_cut l) w (hE.after hB))
  have HR := Lib.hid h
  obtain ⟨⟨p0, p1⟩, -⟩ := h.cells
  have i0 : (0 : Int) ≤ (k : Int) := by omega
  have i1 : (k : Int) ≤ 1000000000 := by omega
  clear h hB hE hl
  go_enter Tryz.func30, Tryz.ntmps30
  go_wp2_with fail
  refine cC.out.mono ?_
  rintro e w1 ⟨rfl, hb1⟩
  have h1 := HR.out.after hb1
  have HFin := Lib.hid (rd_set (t := lnR l) h1)
  have HUp := Lib.hid (((Up.of (b := b) hb1).put 0 (.string (S (lnR l)))).put 1 (.int .i64 ((k : Int) + 1)))
  clear p0 p1
  obtain ⟨⟨p0, p1⟩, z0, z1⟩ := h1.cells
  clear h1 hb1 cC HR
  go_wp2
  first
    | exact ⟨rfl, HFin.out, HUp.out⟩
    | (refine bodyPost_ret (results_tmp2 rfl _ _) rfl ?_; exact ⟨rfl, HFin.out, HUp.out⟩)
    | (go_ret2; exact ⟨rfl, HFin.out, HUp.out⟩)
end

end Go.Proofs.YtnfallkeicehiaaGreatDoor
