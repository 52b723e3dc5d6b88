/- Merged: ByS, OrdL, Plain, PlainB. -/
import Derived.Test.YtfjfpefpdlecbaaGreatDoorProg
import Derived.Lib.Hide
import Derived.Below
import Derived.WalkKit
import Derived.BigCall
import Derived.PlainAid
import Derived.Laws.AppendOwn
import Derived.Laws.BytesArg
import Derived.Lib.ValidLaws
namespace Go.Proofs.YtfjfpefpdlecbaaGreatDoor

section
open Go.RowKit Go.PlainAid
/-- A text of these bytes. -/
def S (l : List UInt8) : ByteArray := ⟨l.toArray⟩
theorem S_size (l : List UInt8) : (S l).size = l.length := by simp [S, ByteArray.size]
theorem S_append (a b : List UInt8) : S a ++ S b = S (a ++ b) := by
  apply ByteArray.ext
  apply Array.toList_inj.1
  simp [S, ByteArray.data_append]
theorem S_list (l : List UInt8) : (S l).data.toList = l := rfl
theorem S_of (s : ByteArray) : S s.data.toList = s := rfl
theorem S_inj {a b : List UInt8} (h : S a = S b) : a = b := by
  have := congrArg (fun s : ByteArray => s.data.toList) h
  exact this
theorem S_extract (l : List UInt8) (a b : Nat) : (S l).extract a b = S ((l.take b).drop a) := by
  apply ByteArray.ext
  apply Array.toList_inj.1
  simp [S, ByteArray.data_extract, List.drop_take]
theorem bt_S (l : List UInt8) (i : Nat) : bt (S l) i = ((l.getD i 0).toNat : Int) := by
  unfold bt
  by_cases h : i < (S l).size
  · rw [dif_pos h]
    have h' : i < l.length := by rwa [S_size] at h
    rw [List.getD_eq_getElem?_getD, List.getElem?_eq_getElem h']
    rfl
  · rw [dif_neg h]
    have h' : ¬ i < l.length := by rwa [S_size] at h
    rw [List.getD_eq_getElem?_getD, List.getElem?_eq_none (by omega)]
    rfl
/-- The byte of a digit. -/
def dgt (r : Nat) : UInt8 := UInt8.ofNat (48 + r)
theorem dgt_nat (c : Nat) (h : c ≤ 9) : (dgt c).toNat = 48 + c := by
  unfold dgt
  rw [UInt8.toNat_ofNat']
  omega
theorem S_facts (l : List UInt8) (h : l ≠ []) : (S l).toList.isEmpty = false ∧ ¬ (S l).toList = [] := by
  have h2 : (S l).toList = l := by
    rw [ByteArray.toList_eq]; rfl
  rw [h2]
  refine ⟨?_, h⟩
  cases l with
  | nil => exact absurd rfl h
  | cons _ _ => rfl
theorem first_bad (f : Nat → Bool) : ∀ n, (∀ i, i < n → f i = true) ∨ ∃ j, j < n ∧ (∀ i, i < j → f i = true) ∧ f j = false
  | 0 => .inl fun i hi => by omega
  | n + 1 => by
    rcases first_bad f n with h | ⟨j, hj, h⟩
    · cases hf : f n
      · exact .inr ⟨n, Nat.lt_succ_self n, h, hf⟩
      · exact .inl fun i hi => by
          rcases Nat.lt_or_ge i n with h1 | h1
          · exact h i h1
          · rw [show i = n by omega]; exact hf
    · exact .inr ⟨j, by omega, h⟩

/-! A slice of bytes of the call's own. -/
def u8V (x : UInt8) : Value := .int .u8 (x.toNat : Int)
theorem infoByteS : (Tryz.prog.info? 5).map (fun i => (i.zero, i.size, i.bytes)) = some (some (.int .u8 0), 1, 1) := by kernel_rfl
theorem strOfNums_S (l : List UInt8) : strOfNums (l.map fun x => (x.toNat : Int)) = S l := by
  apply ByteArray.ext
  apply Array.toList_inj.1
  rw [strOfNums_data, List.map_map]
  show l.map _ = l
  conv => rhs; rw [← List.map_id l]
  refine List.map_congr_left fun x _ => ?_
  simp
/-- A slice of bytes in memory from block B on, not nil: these bytes. -/
structure Byt (B : Nat) (v : Value) (xs : List UInt8) (w : World) : Prop where
  row : w.ownsRow B 5 1 v xs.length (xs.map u8V)
  form : ∃ g cap, v = .slice (some ⟨g, 0, none⟩) xs.length cap
theorem Byt.mk' {B : Nat} {v : Value} {xs : List UInt8} {w : World} (h : w.ownsRow B 5 1 v xs.length (xs.map u8V)) (hne : xs ≠ []) : Byt B v xs w := by
  refine ⟨h, ?_⟩
  rcases h.2 with ⟨_, h0⟩ | ⟨g, cap, cur, rfl, hb, hg, hc, hm, hs, ht⟩
  · exact absurd (List.eq_nil_of_length_eq_zero h0) hne
  · exact ⟨g, cap, rfl⟩
theorem Byt.open {B : Nat} {v : Value} {xs : List UInt8} {w : World} (h : Byt B v xs w) :
    ∃ g cap, v = .slice (some ⟨g, 0, none⟩) xs.length cap ∧ B ≤ g ∧ g < w.heap.size ∧ ∀ i u, (xs.map u8V)[i]? = some u → w.cell? ⟨g, i, none⟩ = some u := by
  obtain ⟨g', cap', e⟩ := h.form
  rcases h.row.2 with ⟨h0, _⟩ | ⟨g, cap, cur, rfl, hb, hg, hc, hm, hs, ht⟩
  · rw [h0] at e; cases e
  · refine ⟨g, cap, rfl, hb, (Array.getElem?_eq_some_iff.1 hg).1, fun i u hi => ?_⟩
    have := h.row.cells (g := g) rfl i u hi
    have hadd : (⟨g, 0, none⟩ : Addr).add i = ⟨g, i, none⟩ := by unfold Addr.add; split <;> simp_all
    rwa [hadd] at this
theorem Byt.str {B : Nat} {v : Value} {xs : List UInt8} {w : World} (h : Byt B v xs w) :
    (convert 65 9 v).run Tryz.prog w = .ok (.string (S xs)) w := by
  obtain ⟨g, cap, rfl, hb, hg, hc⟩ := h.open
  rw [← strOfNums_S]
  refine run_convert_bytes_arg w 65 5 Tryz.underlying65 Tryz.underlying5 g 0 _ cap _ (by simp) (fun i hi => ?_) 9 Tryz.underlying9
  rw [Nat.zero_add]
  refine hc i _ ?_
  simp [u8V, List.getD, List.getElem?_eq_getElem hi]
theorem Byt.empty (w : World) : Byt w.heap.size (.slice (some ⟨w.heap.size, 0, none⟩) 0 0) [] (w.alloc (.cells #[] 5)) :=
  ⟨⟨rfl, .inr ⟨w.heap.size, 0, #[], rfl, Nat.le_refl _, heap_alloc_new w _, Nat.le_refl _, Nat.zero_le _, rfl, rfl⟩⟩, ⟨_, _, rfl⟩⟩
theorem Byt.one (w : World) (x : UInt8) : Byt w.heap.size (.slice (some ⟨w.heap.size, 0, none⟩) 1 1) [x] (w.alloc (.cells #[u8V x] 5)) :=
  ⟨⟨rfl, .inr ⟨w.heap.size, 1, #[u8V x], rfl, Nat.le_refl _, heap_alloc_new w _, Nat.le_refl _, by decide, rfl, rfl⟩⟩, ⟨_, _, rfl⟩⟩
theorem cells_one (w : World) (x : Value) (t : TypeId) : ∀ j u, [x][j]? = some u → (w.alloc (.cells #[x] t)).cell? ((⟨w.heap.size, 0, none⟩ : Addr).add j) = some u := by
  intro j u hj
  match j, hj with
  | 0, hj => simp at hj; subst hj; simp [Addr.add]
  | (j + 1), hj => simp at hj
theorem info_byte : ∃ i0, Tryz.prog.info? 5 = some i0 ∧ i0.zero = some (.int .u8 0) ∧ i0.size = 1 ∧ i0.bytes = 1 := by
  obtain ⟨i0, h0, h2⟩ := Option.map_eq_some_iff.1 infoByteS
  simp only [Prod.mk.injEq] at h2
  exact ⟨i0, h0, h2.1, h2.2.1, h2.2.2⟩
end

section
structure Strict {α : Type} (lt : α → α → Bool) : Prop where
  irr : ∀ a, lt a a = false
  tr : ∀ a b c, lt a b = true → lt b c = true → lt a c = true
  tot : ∀ a b, lt a b = false → lt b a = false → a = b

def AscO {α : Type} (lt : α → α → Bool) (L : List α) : Prop := L.Pairwise fun a b => lt a b = true
theorem asc_ext15 {α : Type} {lt : α → α → Bool} (S : Strict lt) : ∀ A B : List α, AscO lt A → AscO lt B → (∀ n, n ∈ A ↔ n ∈ B) → A = B
  | [], [], _, _, _ => rfl
  | [], b :: t, _, _, h => absurd ((h b).2 List.mem_cons_self) (by simp)
  | a :: s, [], _, _, h => absurd ((h a).1 List.mem_cons_self) (by simp)
  | a :: s, b :: t, hA, hB, h => by
    unfold AscO at hA hB
    rw [List.pairwise_cons] at hA hB
    have e : a = b := by
      rcases List.mem_cons.1 ((h a).1 List.mem_cons_self) with e | e
      · exact e
      · rcases List.mem_cons.1 ((h b).2 List.mem_cons_self) with e2 | e2
        · exact e2.symm
        · have h1 := hB.1 a e
          have h2 := hA.1 b e2
          have := S.tr _ _ _ h1 h2
          rw [S.irr] at this
          cases this
    subst e
    congr 1
    refine asc_ext15 S s t hA.2 hB.2 fun n => ⟨fun hn => ?_, fun hn => ?_⟩
    · rcases List.mem_cons.1 ((h n).1 (List.mem_cons_of_mem _ hn)) with rfl | h2
      · have := hA.1 n hn
        rw [S.irr] at this
        cases this
      · exact h2
    · rcases List.mem_cons.1 ((h n).2 (List.mem_cons_of_mem _ hn)) with rfl | h2
      · have := hB.1 n hn
        rw [S.irr] at this
        cases this
      · exact h2
/-- How many elements at the beginning stand before x. -/
def plcO {α : Type} (lt : α → α → Bool) (L : List α) (x : α) : Nat := (L.takeWhile fun y => lt y x).length
def insO {α : Type} (lt : α → α → Bool) (L : List α) (x : α) : List α := L.take (plcO lt L x) ++ x :: L.drop (plcO lt L x)
theorem plcO_le {α : Type} (lt : α → α → Bool) (x : α) : ∀ L : List α, plcO lt L x ≤ L.length
  | [] => Nat.le_refl _
  | y :: L => by
    have := plcO_le lt x L
    unfold plcO at *
    rw [List.takeWhile_cons]
    split
    · simp only [List.length_cons]; omega
    · simp
theorem insO_cons {α : Type} (lt : α → α → Bool) (y : α) (L : List α) (x : α) : insO lt (y :: L) x = if lt y x = true then y :: insO lt L x else x :: y :: L := by
  unfold insO plcO
  rw [List.takeWhile_cons]
  by_cases h : lt y x = true
  · simp [h]
  · simp [h]
theorem insO_nil {α : Type} (lt : α → α → Bool) (x : α) : insO lt [] x = [x] := rfl
theorem insO_mem {α : Type} (lt : α → α → Bool) (L : List α) (x y : α) : y ∈ insO lt L x ↔ y ∈ L ∨ y = x := by
  unfold insO
  rw [List.mem_append, List.mem_cons]
  conv => rhs; rw [← List.take_append_drop (plcO lt L x) L, List.mem_append]
  exact ⟨fun h => by rcases h with h | h | h <;> simp [h], fun h => by rcases h with (h | h) | h <;> simp [h]⟩
theorem insO_len {α : Type} (lt : α → α → Bool) (L : List α) (x : α) : (insO lt L x).length = L.length + 1 := by
  have := plcO_le lt x L
  unfold insO
  rw [List.length_append, List.length_cons, List.length_take, List.length_drop]
  omega
theorem insO_asc {α : Type} {lt : α → α → Bool} (S : Strict lt) (x : α) : ∀ L : List α, AscO lt L → x ∉ L → AscO lt (insO lt L x)
  | [], _, _ => by unfold AscO; exact List.pairwise_singleton _ _
  | y :: L, h, hx => by
    unfold AscO at h
    rw [List.pairwise_cons] at h
    rw [insO_cons]
    by_cases hy : lt y x = true
    · rw [if_pos hy]
      unfold AscO
      rw [List.pairwise_cons]
      refine ⟨fun z hz => ?_, insO_asc S x L h.2 (fun g => hx (List.mem_cons_of_mem _ g))⟩
      rcases (insO_mem lt L x z).1 hz with hz | rfl
      · exact h.1 z hz
      · exact hy
    · rw [if_neg hy]
      have hxy : lt x y = true := by
        by_cases g : lt x y = true
        · exact g
        · have := S.tot x y (by simpa using g) (by simpa using hy)
          exact absurd (this ▸ List.mem_cons_self) hx
      unfold AscO
      rw [List.pairwise_cons, List.pairwise_cons]
      refine ⟨fun z hz => ?_, h⟩
      rcases List.mem_cons.1 hz with rfl | hz
      · exact hxy
      · exact S.tr _ _ _ hxy (h.1 z hz)
/-- Insertion, if it is not there yet. -/
def putO {α : Type} [DecidableEq α] (lt : α → α → Bool) (L : List α) (x : α) : List α := if x ∈ L then L else insO lt L x
theorem putO_mem {α : Type} [DecidableEq α] (lt : α → α → Bool) (L : List α) (x y : α) : y ∈ putO lt L x ↔ y ∈ L ∨ y = x := by
  unfold putO
  split
  · next h => exact ⟨.inl, fun g => g.elim id (fun e => e ▸ h)⟩
  · exact insO_mem lt L x y
theorem putO_asc {α : Type} [DecidableEq α] {lt : α → α → Bool} (S : Strict lt) (L : List α) (x : α) (h : AscO lt L) : AscO lt (putO lt L x) := by
  unfold putO
  split
  · exact h
  · next hx => exact insO_asc S x L h hx
theorem putO_fold_mem {α : Type} [DecidableEq α] (lt : α → α → Bool) : ∀ (M L : List α) (y : α), y ∈ M.foldl (putO lt) L ↔ y ∈ L ∨ y ∈ M
  | [], L, y => by simp
  | m :: M, L, y => by
    rw [List.foldl_cons, putO_fold_mem lt M (putO lt L m) y, putO_mem, List.mem_cons, or_assoc]
theorem putO_fold_asc {α : Type} [DecidableEq α] {lt : α → α → Bool} (S : Strict lt) : ∀ (M L : List α), AscO lt L → AscO lt (M.foldl (putO lt) L)
  | [], _, h => h
  | m :: M, L, h => putO_fold_asc S M (putO lt L m) (putO_asc S L m h)
/-- In an ascending list, x is there exactly if it stands at its place. -/
theorem at_place {α : Type} {lt : α → α → Bool} (S : Strict lt) (x : α) : ∀ L : List α, AscO lt L → (x ∈ L ↔ L[plcO lt L x]? = some x)
  | [], _ => by simp
  | y :: L, h => by
    unfold AscO at h
    rw [List.pairwise_cons] at h
    have ih := at_place S x L h.2
    unfold plcO at *
    rw [List.takeWhile_cons]
    by_cases hy : lt y x = true
    · rw [if_pos hy, List.length_cons, List.getElem?_cons_succ, ← ih, List.mem_cons]
      exact ⟨fun g => g.elim (fun e => by rw [e, S.irr] at hy; cases hy) id, .inr⟩
    · rw [if_neg hy]
      simp only [List.length_nil, List.getElem?_cons_zero, Option.some.injEq]
      refine ⟨fun g => ?_, fun e => e ▸ List.mem_cons_self⟩
      rcases List.mem_cons.1 g with e | g
      · exact e.symm
      · have := h.1 x g
        exact absurd this hy
/-- The place, as a loop finds it: all before it stand before x, the one at it does not. -/
theorem place_at {α : Type} (lt : α → α → Bool) (x : α) : ∀ (L : List α) (k : Nat), (∀ j, (hj : j < k) → ∃ y, L[j]? = some y ∧ lt y x = true) → (∀ y, L[k]? = some y → lt y x = false) → plcO lt L x = min k L.length
  | [], k, _, _ => by simp [plcO]
  | y :: L, 0, _, h2 => by
    have := h2 y rfl
    unfold plcO
    rw [List.takeWhile_cons, if_neg (by rw [this]; simp)]
    simp
  | y :: L, k + 1, h1, h2 => by
    obtain ⟨z, hz, hlt⟩ := h1 0 (by omega)
    rw [List.getElem?_cons_zero, Option.some.injEq] at hz
    subst hz
    have ih := place_at lt x L k (fun j hj => by
      obtain ⟨z, hz, h⟩ := h1 (j + 1) (by omega)
      exact ⟨z, by rw [← hz, List.getElem?_cons_succ], h⟩) (fun z hz => h2 z (by rw [List.getElem?_cons_succ]; exact hz))
    unfold plcO at *
    rw [List.takeWhile_cons, if_pos hlt, List.length_cons, ih, List.length_cons]
    omega
end

section
open Go.Lib
/-- A character that a text may have. -/
def okc (c : Nat) : Prop := (32 ≤ c ∧ c ≤ 126) ∨ (160 ≤ c ∧ c ≤ 55295) ∨ (57344 ≤ c ∧ c ≤ 65535)
instance (c : Nat) : Decidable (okc c) := by unfold okc; infer_instance
def OKs (cs : List Nat) : Prop := ∀ c ∈ cs, okc c
/-- The bytes of characters. -/
def enc (cs : List Nat) : List UInt8 := cs.flatMap fun (c : Nat) => encodeRune (c : Int)
/-- The string of characters. -/
def T (cs : List Nat) : ByteArray := ⟨(enc cs).toArray⟩
/-- The width of a character. -/
def wid (c : Nat) : Nat := (encodeRune (c : Int)).length
/-- The place of character number k. -/
def off (cs : List Nat) (k : Nat) : Nat := (enc (cs.take k)).length

theorem enc_nil : enc [] = [] := rfl
theorem enc_cons (c : Nat) (cs : List Nat) : enc (c :: cs) = encodeRune (c : Int) ++ enc cs := by simp [enc]
theorem enc_append (a b : List Nat) : enc (a ++ b) = enc a ++ enc b := by simp [enc]
theorem enc_one (c : Nat) : enc [c] = encodeRune (c : Int) := by simp [enc]
theorem wid_pos (c : Nat) : 1 ≤ wid c ∧ wid c ≤ 4 := by
  have := encodeRuneZ_length (c : Int)
  simpa [wid, encodeRune] using this
theorem OKs_nil : OKs [] := by intro c h; cases h
theorem OKs_append {a b : List Nat} : OKs (a ++ b) ↔ OKs a ∧ OKs b := by
  unfold OKs
  constructor
  · intro h
    exact ⟨fun c hc => h c (by simp [hc]), fun c hc => h c (by simp [hc])⟩
  · rintro ⟨h, k⟩ c hc
    rcases List.mem_append.1 hc with x | x
    · exact h c x
    · exact k c x
theorem OKs_cons {c : Nat} {b : List Nat} : OKs (c :: b) ↔ okc c ∧ OKs b := by
  unfold OKs; simp
theorem OKs_take {a : List Nat} (h : OKs a) (k : Nat) : OKs (a.take k) := fun c hc => h c (List.mem_of_mem_take hc)
theorem OKs_drop {a : List Nat} (h : OKs a) (k : Nat) : OKs (a.drop k) := fun c hc => h c (List.mem_of_mem_drop hc)
theorem OKs_get {a : List Nat} (h : OKs a) {k : Nat} (hk : k < a.length) : okc a[k] := h _ (List.getElem_mem hk)

theorem T_list (cs : List Nat) : (T cs).data.toList = enc cs := by simp [T]
theorem T_size (cs : List Nat) : (T cs).size = (enc cs).length := by simp [T, ByteArray.size]
theorem T_off (cs : List Nat) : off cs cs.length = (T cs).size := by simp [off, T_size]
theorem eq_T {s : ByteArray} {cs : List Nat} (h : s.data.toList = enc cs) : s = T cs := by
  obtain ⟨d⟩ := s
  obtain ⟨l⟩ := d
  simp only at h
  subst h
  rfl
theorem T_eq_iff {a b : List Nat} : T a = T b ↔ enc a = enc b := by
  constructor
  · intro h
    rw [← T_list, ← T_list, h]
  · intro h
    unfold T; rw [h]
theorem off_zero (cs : List Nat) : off cs 0 = 0 := by simp [off, enc]
theorem off_succ (cs : List Nat) (k : Nat) (h : k < cs.length) : off cs (k + 1) = off cs k + wid cs[k] := by
  unfold off wid
  rw [List.take_succ_eq_append_getElem h, enc_append, enc_one, List.length_append]
theorem enc_take_drop (cs : List Nat) (k : Nat) : enc cs = enc (cs.take k) ++ enc (cs.drop k) := by
  rw [← enc_append, List.take_append_drop]
theorem off_le (cs : List Nat) (k : Nat) : off cs k ≤ (T cs).size := by
  rw [T_size, enc_take_drop cs k, List.length_append]
  unfold off; omega
theorem off_lt (cs : List Nat) (k : Nat) (h : k < cs.length) : off cs k < (T cs).size := by
  have h1 := off_succ cs k h
  have h2 := off_le cs (k + 1)
  have h3 := wid_pos cs[k]
  omega
theorem le_off (cs : List Nat) : ∀ k, k ≤ cs.length → k ≤ off cs k
  | 0, _ => by omega
  | k + 1, h => by
    have := le_off cs k (by omega)
    have h1 := off_succ cs k (by omega)
    have h3 := wid_pos cs[k]
    omega
theorem len_le (cs : List Nat) : cs.length ≤ (T cs).size := by
  have := le_off cs cs.length (Nat.le_refl _)
  rw [T_off] at this
  exact this
theorem off_mono (cs : List Nat) (i j : Nat) (h : i ≤ j) : off cs i ≤ off cs j := by
  have : cs.take j = cs.take i ++ (cs.take j).drop i := by
    have := (List.take_append_drop i (cs.take j)).symm
    rwa [List.take_take, Nat.min_eq_left h] at this
  unfold off
  rw [this, enc_append, List.length_append]
  omega
theorem off_inj (cs : List Nat) (i j : Nat) (hi : i < j) (hj : j ≤ cs.length) : off cs i < off cs j := by
  have h1 := off_succ cs i (by omega)
  have h2 := off_mono cs (i + 1) j (by omega)
  have h3 := wid_pos (cs[i]'(by omega))
  omega

theorem toByteNat (z : Int) (_h0 : 0 ≤ z) (h1 : z < 256) : (z.toNat.toUInt8).toNat = z.toNat := by
  simp
  omega
/-- A character that a text may have is read as it was written. -/
theorem decodeL_enc (c : Nat) (t : List UInt8) (h : okc c) : decodeL (encodeRune (c : Int) ++ t) = (c, wid c) := by
  rw [decodeL_N]
  unfold wid encodeRune
  by_cases h1 : c ≤ 127
  · rw [encodeRuneZ_one (by omega) (by omega)]
    have e0 := toByteNat (c : Int) (by omega) (by omega)
    simp only [List.map_cons, List.map_nil, List.cons_append, List.nil_append, List.getD_cons_zero, List.length_cons, List.length_nil]
    rw [e0]
    simp only [decodeN, Int.toNat_natCast]
    rw [if_pos (by omega)]
  by_cases h2 : c ≤ 2047
  · rw [encodeRuneZ_two (by omega) (by omega)]
    have e0 := toByteNat (192 + (c : Int) / 64) (by omega) (by omega)
    have e1 := toByteNat (128 + (c : Int) % 64) (by omega) (by omega)
    simp only [List.map_cons, List.map_nil, List.cons_append, List.nil_append, List.getD_cons_zero, List.getD_cons_succ, List.length_cons, List.length_nil]
    rw [e0, e1]
    simp only [decodeN]
    rw [if_neg (by omega), if_pos (by omega), if_pos (by omega)]
    refine Prod.ext ?_ rfl
    simp only
    omega
  · rw [encodeRuneZ_three (by unfold okc at h; omega)]
    have e0 := toByteNat (224 + (c : Int) / 4096) (by omega) (by unfold okc at h; omega)
    have e1 := toByteNat (128 + (c : Int) / 64 % 64) (by omega) (by omega)
    have e2 := toByteNat (128 + (c : Int) % 64) (by omega) (by omega)
    simp only [List.map_cons, List.map_nil, List.cons_append, List.nil_append, List.getD_cons_zero, List.getD_cons_succ, List.length_cons, List.length_nil]
    rw [e0, e1, e2]
    unfold okc at h
    simp only [decodeN]
    rw [if_neg (by omega), if_neg (by omega), if_pos (by omega), if_pos (by omega)]
    refine Prod.ext ?_ rfl
    simp only
    omega
theorem wid_le (c : Nat) (h : okc c) : wid c ≤ 3 := by
  unfold wid encodeRune
  by_cases h1 : c ≤ 127
  · rw [encodeRuneZ_one (by omega) (by omega)]; simp
  by_cases h2 : c ≤ 2047
  · rw [encodeRuneZ_two (by omega) (by omega)]; simp
  · rw [encodeRuneZ_three (by unfold okc at h; omega)]; simp

theorem drop_T (cs : List Nat) (k : Nat) : (T cs).data.toList.drop (off cs k) = enc (cs.drop k) := by
  rw [T_list, enc_take_drop cs k]
  exact List.drop_left' rfl
theorem decode_T (cs : List Nat) (h : OKs cs) (k : Nat) (hk : k < cs.length) : Utf8.decode (T cs) (off cs k) = (cs[k], wid cs[k]) := by
  rw [← decodeL_drop, drop_T, List.drop_eq_getElem_cons hk, enc_cons]
  exact decodeL_enc _ _ (OKs_get h hk)

/-- Pieces of a text at characters' places. -/
theorem extract_T (cs : List Nat) (i j : Nat) : (T cs).extract (off cs i) (off cs j) = T ((cs.take j).drop i) := by
  apply eq_T
  rw [ByteArray.data_extract]
  simp only [T, Array.toList_extract, List.extract_eq_take_drop]
  by_cases hij : i ≤ j
  · have h1 : cs.take j = cs.take i ++ (cs.take j).drop i := by
      have := (List.take_append_drop i (cs.take j)).symm
      rwa [List.take_take, Nat.min_eq_left hij] at this
    have h2 : enc cs = enc (cs.take i) ++ (enc ((cs.take j).drop i) ++ enc (cs.drop j)) := by
      rw [enc_take_drop cs j]
      conv => lhs; rw [h1]
      rw [enc_append, List.append_assoc]
    have h3 : off cs j - off cs i = (enc ((cs.take j).drop i)).length := by
      unfold off
      conv => lhs; rw [h1]
      rw [enc_append, List.length_append]
      omega
    rw [h2, h3]
    unfold off
    rw [List.drop_left' rfl, List.take_left' rfl]
  · have := off_mono cs j i (by omega)
    have e : (cs.take j).drop i = [] := List.drop_eq_nil_of_le (by simp; omega)
    rw [e, show off cs j - off cs i = 0 by omega]
    simp [enc]
theorem extract_T0 (cs : List Nat) (j : Nat) : (T cs).extract 0 (off cs j) = T (cs.take j) := by
  have := extract_T cs 0 j
  rwa [off_zero, List.drop_zero] at this

/-! ### which strings are texts -/
/-- The characters of a string, with fuel. -/
def runesF : Nat → List UInt8 → List Nat
  | 0, _ => []
  | n + 1, l => if l = [] then [] else (decodeL l).1 :: runesF n (l.drop (decodeL l).2)
def runes (l : List UInt8) : List Nat := runesF l.length l
def allow (c : Nat) : Bool := (decide (32 ≤ c) && decide (c ≤ 126)) || (decide (160 ≤ c) && decide (c ≤ 65535))
/-- Is a string a text? -/
def validT (l : List UInt8) : Bool := validD l && (runes l).all allow

theorem runesF_fuel : ∀ (n m : Nat) (l : List UInt8), l.length ≤ n → l.length ≤ m → runesF n l = runesF m l
  | 0, m, l, hn, _ => by
    have : l = [] := List.eq_nil_of_length_eq_zero (by omega)
    subst this
    cases m <;> simp [runesF]
  | n + 1, 0, l, _, hm => by
    have : l = [] := List.eq_nil_of_length_eq_zero (by omega)
    subst this
    simp [runesF]
  | n + 1, m + 1, l, hn, hm => by
    unfold runesF
    by_cases hne : l = []
    · simp [hne]
    · have hw := decodeL_width l
      have hl : 0 < l.length := List.length_pos_iff.2 hne
      rw [if_neg hne, if_neg hne, runesF_fuel n m (l.drop (decodeL l).2) (by rw [List.length_drop]; omega) (by rw [List.length_drop]; omega)]
theorem runes_nil : runes [] = [] := rfl
theorem runes_step (l : List UInt8) (hne : l ≠ []) : runes l = (decodeL l).1 :: runes (l.drop (decodeL l).2) := by
  have hl : 0 < l.length := List.length_pos_iff.2 hne
  have hw := decodeL_width l
  obtain ⟨n, hn⟩ : ∃ n, l.length = n + 1 := ⟨l.length - 1, by omega⟩
  unfold runes
  rw [hn]
  show (if l = [] then [] else _) = _
  rw [if_neg hne, runesF_fuel n (l.drop (decodeL l).2).length _ (by rw [List.length_drop]; omega) (Nat.le_refl _)]
theorem runes_enc : ∀ cs : List Nat, OKs cs → runes (enc cs) = cs
  | [], _ => rfl
  | c :: cs, h => by
    obtain ⟨h1, h2⟩ := OKs_cons.1 h
    have hd := decodeL_enc c (enc cs) h1
    have hw := wid_pos c
    have hne : enc (c :: cs) ≠ [] := by
      rw [enc_cons]
      intro e
      have := congrArg List.length e
      unfold wid at hw
      simp at this
      simp [this.1] at hw
    rw [runes_step _ hne]
    rw [enc_cons, hd]
    have : List.drop (c, wid c).2 (encodeRune (c : Int) ++ enc cs) = enc cs := List.drop_left' rfl
    rw [this, runes_enc cs h2]
theorem okc_allow (c : Nat) (h : okc c) : allow c = true := by
  unfold okc at h
  unfold allow
  simp
  omega
theorem validD_enc : ∀ cs : List Nat, OKs cs → validD (enc cs) = true
  | [], _ => rfl
  | c :: cs, h => by
    obtain ⟨h1, h2⟩ := OKs_cons.1 h
    have hd := decodeL_enc c (enc cs) h1
    have hw := wid_pos c
    have hne : enc (c :: cs) ≠ [] := by
      rw [enc_cons]
      intro e
      have := congrArg List.length e
      unfold wid at hw
      simp at this
      simp [this.1] at hw
    rw [validD_step _ hne]
    rw [enc_cons, hd]
    have : List.drop (c, wid c).2 (encodeRune (c : Int) ++ enc cs) = enc cs := List.drop_left' rfl
    rw [this, validD_enc cs h2]
    rw [if_neg]
    rintro ⟨e1, e2⟩
    simp only at e1 e2
    subst e1
    revert e2
    decide
theorem validT_enc (cs : List Nat) (h : OKs cs) : validT (enc cs) = true := by
  unfold validT
  rw [validD_enc cs h, runes_enc cs h]
  simp only [Bool.true_and, List.all_eq_true]
  exact fun c hc => okc_allow c (h c hc)
/-- What was read from valid bytes is no surrogate. -/
theorem decodeL_scalar (l : List UInt8) : (decodeL l).1 < 55296 ∨ 57343 < (decodeL l).1 := by
  rw [decodeL_N]
  have k0 := (l.getD 0 0).toNat_lt
  rcases decodeN_shape l.length (l.getD 0 0).toNat (l.getD 1 0).toNat (l.getD 2 0).toNat (l.getD 3 0).toNat with ⟨c, e⟩ | ⟨c1, c2, c3, cv, e⟩ | ⟨c1, c2, c3, c4, cv, cs, e⟩ | ⟨c1, c2, c3, c4, c5, cv, cw, e⟩ | e
  all_goals (rw [e]; dsimp only; omega)
theorem enc_runes : ∀ (n : Nat) (l : List UInt8), l.length ≤ n → validD l = true → enc (runes l) = l
  | 0, l, hn, _ => by
    have : l = [] := List.eq_nil_of_length_eq_zero (by omega)
    subst this
    rfl
  | n + 1, l, hn, hv => by
    by_cases hne : l = []
    · subst hne; rfl
    · have hw := decodeL_width l
      have hl : 0 < l.length := List.length_pos_iff.2 hne
      rw [validD_step l hne] at hv
      by_cases hb : (decodeL l).1 = 65533 ∧ (decodeL l).2 = 1
      · rw [if_pos hb] at hv; cases hv
      · rw [if_neg hb] at hv
        rw [runes_step l hne, enc_cons, encode_decode l hne hb, enc_runes n _ (by rw [List.length_drop]; omega) hv, List.take_append_drop]
theorem runes_scalar : ∀ (n : Nat) (l : List UInt8), l.length ≤ n → ∀ c ∈ runes l, c < 55296 ∨ 57343 < c
  | 0, l, hn => by
    have : l = [] := List.eq_nil_of_length_eq_zero (by omega)
    subst this
    intro c hc
    cases hc
  | n + 1, l, hn => by
    by_cases hne : l = []
    · subst hne
      intro c hc
      cases hc
    · have hw := decodeL_width l
      have hl : 0 < l.length := List.length_pos_iff.2 hne
      intro c hc
      rw [runes_step l hne] at hc
      rcases List.mem_cons.1 hc with e | h
      · subst e; exact decodeL_scalar l
      · exact runes_scalar n _ (by rw [List.length_drop]; omega) c h
/-- A string is a text exactly if it is the bytes of characters that a text may have. -/
theorem validT_text (l : List UInt8) (h : validT l = true) : ∃ cs, OKs cs ∧ l = enc cs := by
  unfold validT at h
  simp only [Bool.and_eq_true, List.all_eq_true] at h
  refine ⟨runes l, ?_, (enc_runes l.length l (Nat.le_refl _) h.1).symm⟩
  intro c hc
  have h1 := h.2 c hc
  have h2 := runes_scalar l.length l (Nat.le_refl _) c hc
  unfold allow at h1
  unfold okc
  simp at h1
  omega
theorem text_of {s : ByteArray} (h : validT s.data.toList = true) : ∃ cs, OKs cs ∧ s = T cs := by
  obtain ⟨cs, h1, h2⟩ := validT_text _ h
  exact ⟨cs, h1, eq_T h2⟩
theorem validT_T (cs : List Nat) (h : OKs cs) : validT (T cs).data.toList = true := by rw [T_list]; exact validT_enc cs h
/-- Different characters, different bytes. -/
theorem enc_inj {a b : List Nat} (ha : OKs a) (hb : OKs b) (h : enc a = enc b) : a = b := by
  rw [← runes_enc a ha, ← runes_enc b hb, h]
theorem T_inj {a b : List Nat} (ha : OKs a) (hb : OKs b) : T a = T b ↔ a = b :=
  ⟨fun h => enc_inj ha hb (T_eq_iff.1 h), fun h => by rw [h]⟩
theorem T_nil : T [] = ⟨#[]⟩ := rfl
theorem T_size_zero (cs : List Nat) : (T cs).size = 0 ↔ cs = [] := by
  constructor
  · intro h
    have := len_le cs
    exact List.eq_nil_of_length_eq_zero (by omega)
  · intro h
    subst h
    rfl
theorem enc_le (cs : List Nat) : (enc cs).length ≤ 4 * cs.length := by
  induction cs with
  | nil => simp [enc]
  | cons c cs ih =>
    have := wid_pos c
    unfold wid at this
    rw [enc_cons, List.length_append, List.length_cons]
    omega
def blankc (c : Nat) : Bool := c == 32 || c == 160
def letterc (c : Nat) : Bool := (decide (97 ≤ c) && decide (c ≤ 122)) || (decide (48 ≤ c) && decide (c ≤ 57)) || decide (256 ≤ c)
end

section
open Go.Lib
/-! ### cleaning -/
def cleanStep (st : List Nat × Bool) (c : Nat) : List Nat × Bool :=
  if blankc c then (st.1, true) else ((if st.2 = true ∧ st.1 ≠ [] then st.1 ++ [32] else st.1) ++ [c], false)
def cleanRun (cs : List Nat) : List Nat × Bool := cs.foldl cleanStep ([], false)
def cleanL (cs : List Nat) : List Nat := (cleanRun cs).1

theorem cleanRun_snoc (cs : List Nat) (c : Nat) : cleanRun (cs ++ [c]) = cleanStep (cleanRun cs) c := by simp [cleanRun]
theorem cleanRun_take (cs : List Nat) (j : Nat) (h : j < cs.length) : cleanRun (cs.take (j + 1)) = cleanStep (cleanRun (cs.take j)) cs[j] := by
  rw [List.take_succ_eq_append_getElem h, cleanRun_snoc]
theorem snoc_ind {p : List Nat → Prop} (h0 : p []) (hs : ∀ l c, p l → p (l ++ [c])) : ∀ l, p l := by
  intro l
  have : ∀ n (l : List Nat), l.length = n → p l := by
    intro n
    induction n with
    | zero => intro l h; rw [List.eq_nil_of_length_eq_zero h]; exact h0
    | succ n ih =>
      intro l h
      have hne : l ≠ [] := by intro e; rw [e] at h; cases h
      rw [← List.dropLast_concat_getLast hne]
      exact hs _ _ (ih _ (by simp [h]))
  exact this _ l rfl
theorem cleanStep_same (out : List Nat) (c : Nat) (g : Bool) (hg : cleanRun out = (out, false)) :
    cleanRun (cleanStep (out, g) c).1 = ((cleanStep (out, g) c).1, false) := by
  unfold cleanStep
  by_cases hb : blankc c = true
  · simp only [hb, if_true]; exact hg
  · have hb' : blankc c = false := by simpa using hb
    simp only [hb', Bool.false_eq_true, if_false]
    by_cases hc : g = true ∧ out ≠ []
    · rw [if_pos hc, cleanRun_snoc, cleanRun_snoc, hg]
      have b32 : blankc 32 = true := rfl
      simp [cleanStep, b32, hb', hc.2]
    · rw [if_neg hc, cleanRun_snoc, hg]
      simp [cleanStep, hb']
theorem cleanRun_out (cs : List Nat) : cleanRun (cleanRun cs).1 = ((cleanRun cs).1, false) := by
  refine snoc_ind (p := fun cs => cleanRun (cleanRun cs).1 = ((cleanRun cs).1, false)) ?_ ?_ cs
  · rfl
  · intro l c ih
    rw [cleanRun_snoc]
    exact cleanStep_same _ c (cleanRun l).2 ih
theorem clean_twice (cs : List Nat) : cleanL (cleanL cs) = cleanL cs := by
  unfold cleanL
  rw [cleanRun_out]
theorem clean_nil (cs : List Nat) : cleanL cs = [] ↔ cs.all blankc = true := by
  unfold cleanL
  refine snoc_ind (p := fun cs => (cleanRun cs).1 = [] ↔ cs.all blankc = true) ?_ ?_ cs
  · simp [cleanRun]
  · intro l c ih
    rw [cleanRun_snoc]
    unfold cleanStep
    by_cases hb : blankc c = true
    · simp only [hb, if_true, List.all_append, List.all_cons, List.all_nil, Bool.and_true]
      exact ih
    · have hb' : blankc c = false := by simpa using hb
      simp [hb']
theorem okc_32 : okc 32 := by decide
theorem clean_OK (cs : List Nat) (h : OKs cs) : OKs (cleanL cs) := by
  unfold cleanL
  refine snoc_ind (p := fun cs => OKs cs → OKs (cleanRun cs).1) ?_ ?_ cs h
  · intro _; exact OKs_nil
  · intro l c ih hl
    obtain ⟨h1, h2⟩ := OKs_append.1 hl
    rw [cleanRun_snoc]
    unfold cleanStep
    by_cases hb : blankc c = true
    · simp only [hb, if_true]; exact ih h1
    · have hb' : blankc c = false := by simpa using hb
      simp only [hb', Bool.false_eq_true, if_false]
      refine OKs_append.2 ⟨?_, h2⟩
      split
      · exact OKs_append.2 ⟨ih h1, by intro x hx; simp at hx; subst hx; exact okc_32⟩
      · exact ih h1
theorem cleanRun_len (cs : List Nat) : (cleanRun cs).1.length ≤ 2 * cs.length := by
  refine snoc_ind (p := fun cs => (cleanRun cs).1.length ≤ 2 * cs.length) ?_ ?_ cs
  · simp [cleanRun]
  · intro l c ih
    rw [cleanRun_snoc]
    unfold cleanStep
    split
    · simp only [List.length_append, List.length_singleton]; omega
    · simp only
      split <;> simp <;> omega

/-! ### folding -/
/-- What folding makes of the characters from 192 to 255. -/
def accL : List (List Nat) := [
  [97], [97], [97], [97], [97], [97], [97, 101], [99], [101], [101], [101], [101], [105], [105], [105], [105],
  [100], [110], [111], [111], [111], [111], [111], [215], [111], [117], [117], [117], [117], [121], [116, 104], [115, 115],
  [97], [97], [97], [97], [97], [97], [97, 101], [99], [101], [101], [101], [101], [105], [105], [105], [105],
  [100], [110], [111], [111], [111], [111], [111], [247], [111], [117], [117], [117], [117], [121], [116, 104], [121]]
def foldc (c : Nat) : List Nat := if 65 ≤ c ∧ c ≤ 90 then [c + 32] else if 192 ≤ c ∧ c ≤ 255 then accL.getD (c - 192) [] else [c]
def foldL (cs : List Nat) : List Nat := cs.flatMap foldc

theorem foldL_append (a b : List Nat) : foldL (a ++ b) = foldL a ++ foldL b := by simp [foldL]
theorem foldL_one (c : Nat) : foldL [c] = foldc c := by simp [foldL]
theorem foldL_cons (c : Nat) (b : List Nat) : foldL (c :: b) = foldc c ++ foldL b := by simp [foldL]
theorem foldL_take (cs : List Nat) (j : Nat) (h : j < cs.length) : foldL (cs.take (j + 1)) = foldL (cs.take j) ++ foldc cs[j] := by
  rw [List.take_succ_eq_append_getElem h, foldL_append, foldL_one]
theorem fold_table : ∀ i : Fin 256, (∀ x ∈ foldc i.val, foldc x = [x]) ∧ (foldc i.val).length ≤ 2 ∧ 1 ≤ (foldc i.val).length ∧ (okc i.val → ∀ x ∈ foldc i.val, okc x) := by decide +kernel
theorem foldc_fix (c : Nat) : ∀ x ∈ foldc c, foldc x = [x] := by
  by_cases h : c < 256
  · exact (fold_table ⟨c, h⟩).1
  · have e : foldc c = [c] := by unfold foldc; rw [if_neg (by omega), if_neg (by omega)]
    intro x hx
    rw [e] at hx
    simp at hx
    subst hx
    exact e
theorem foldc_len (c : Nat) : (foldc c).length ≤ 2 := by
  by_cases h : c < 256
  · exact (fold_table ⟨c, h⟩).2.1
  · have e : foldc c = [c] := by unfold foldc; rw [if_neg (by omega), if_neg (by omega)]
    rw [e]; simp
theorem foldc_OK (c : Nat) (hc : okc c) : OKs (foldc c) := by
  by_cases h : c < 256
  · exact (fold_table ⟨c, h⟩).2.2.2 hc
  · have e : foldc c = [c] := by unfold foldc; rw [if_neg (by omega), if_neg (by omega)]
    rw [e]
    intro x hx
    simp at hx
    subst hx
    exact hc
theorem fold_fix (cs : List Nat) : ∀ x ∈ foldL cs, foldc x = [x] := by
  intro x hx
  unfold foldL at hx
  obtain ⟨c, _, h⟩ := List.mem_flatMap.1 hx
  exact foldc_fix c x h
theorem fold_of_fix : ∀ (l : List Nat), (∀ x ∈ l, foldc x = [x]) → foldL l = l
  | [], _ => rfl
  | c :: l, h => by
    rw [foldL_cons, h c (by simp), fold_of_fix l (fun x hx => h x (by simp [hx]))]
    rfl
theorem fold_twice (cs : List Nat) : foldL (foldL cs) = foldL cs := fold_of_fix _ (fold_fix cs)
theorem fold_OK (cs : List Nat) (h : OKs cs) : OKs (foldL cs) := by
  intro x hx
  unfold foldL at hx
  obtain ⟨c, hc, hx'⟩ := List.mem_flatMap.1 hx
  exact foldc_OK c (h c hc) x hx'
theorem fold_len (cs : List Nat) : (foldL cs).length ≤ 2 * cs.length := by
  induction cs with
  | nil => simp [foldL]
  | cons c cs ih =>
    have := foldc_len c
    rw [foldL_cons, List.length_append, List.length_cons]
    omega

/-! ### words -/
def flush (st : List (List Nat) × List Nat) : List (List Nat) × List Nat := if st.2 = [] then (st.1, []) else (st.1 ++ [st.2], [])
def wstep (st : List (List Nat) × List Nat) (c : Nat) : List (List Nat) × List Nat := if letterc c then (st.1, st.2 ++ [c]) else flush st
def wrun (st : List (List Nat) × List Nat) (cs : List Nat) : List (List Nat) × List Nat := cs.foldl wstep st
def wst (cs : List Nat) : List (List Nat) × List Nat := wrun ([], []) cs
/-- The words of a folded text. -/
def wordsL (cs : List Nat) : List (List Nat) := (flush (wst cs)).1
/-- The words of a text. -/
def W (cs : List Nat) : List (List Nat) := wordsL (foldL cs)

theorem wrun_append (st : List (List Nat) × List Nat) (a b : List Nat) : wrun st (a ++ b) = wrun (wrun st a) b := by simp [wrun]
theorem wrun_one (st : List (List Nat) × List Nat) (c : Nat) : wrun st [c] = wstep st c := rfl
theorem wst_take (cs : List Nat) (j : Nat) (h : j < cs.length) : wst (cs.take (j + 1)) = wstep (wst (cs.take j)) cs[j] := by
  rw [List.take_succ_eq_append_getElem h]
  unfold wst
  rw [wrun_append, wrun_one]
theorem flush_flush (st : List (List Nat) × List Nat) : flush (flush st) = flush st := by
  unfold flush
  by_cases h : st.2 = []
  · simp [h]
  · simp [h]
theorem flush_cur (st : List (List Nat) × List Nat) : (flush st).2 = [] := by
  unfold flush
  split <;> rfl
theorem W_fold (cs : List Nat) : W (foldL cs) = W cs := by unfold W; rw [fold_twice]
theorem blank_fold (c : Nat) (h : blankc c = true) : foldc c = [c] ∧ letterc c = false := by
  unfold blankc at h
  simp at h
  rcases h with rfl | rfl <;> exact ⟨rfl, rfl⟩
theorem W_clean_run (cs : List Nat) : ((cleanRun cs).2 = false → wst (foldL cs) = wst (foldL (cleanRun cs).1)) ∧ ((cleanRun cs).2 = true → wst (foldL cs) = flush (wst (foldL (cleanRun cs).1))) := by
  refine snoc_ind (p := fun cs => ((cleanRun cs).2 = false → wst (foldL cs) = wst (foldL (cleanRun cs).1)) ∧ ((cleanRun cs).2 = true → wst (foldL cs) = flush (wst (foldL (cleanRun cs).1)))) ?_ ?_ cs
  · exact ⟨fun _ => rfl, fun h => by cases h⟩
  · rintro l c ⟨i1, i2⟩
    have hrun : wst (foldL (l ++ [c])) = wrun (wst (foldL l)) (foldc c) := by
      rw [foldL_append, foldL_one]; unfold wst; rw [wrun_append]
    rw [cleanRun_snoc, hrun]
    unfold cleanStep
    by_cases hb : blankc c = true
    · obtain ⟨hf, hl⟩ := blank_fold c hb
      simp only [hb, if_true]
      refine ⟨(fun h => by cases h), fun _ => ?_⟩
      rw [hf, wrun_one]
      unfold wstep
      rw [hl]
      simp only [Bool.false_eq_true, if_false]
      cases hg : (cleanRun l).2
      · rw [i1 hg]
      · rw [i2 hg, flush_flush]
    · have hb' : blankc c = false := by simpa using hb
      simp only [hb', Bool.false_eq_true, if_false]
      refine ⟨fun _ => ?_, fun h => by cases h⟩
      by_cases hc : (cleanRun l).2 = true ∧ (cleanRun l).1 ≠ []
      · rw [if_pos hc, foldL_append, foldL_append, foldL_one, foldL_one, i2 hc.1]
        unfold wst
        rw [wrun_append, wrun_append]
        rfl
      · rw [if_neg hc, foldL_append, foldL_one]
        unfold wst
        rw [wrun_append]
        congr 1
        show wst (foldL l) = wst (foldL (cleanRun l).1)
        cases hg : (cleanRun l).2
        · exact i1 hg
        · have he : (cleanRun l).1 = [] := by
            by_cases h : (cleanRun l).1 = []
            · exact h
            · exact absurd ⟨hg, h⟩ hc
          rw [i2 hg, he]
          rfl
theorem W_clean (cs : List Nat) : W (cleanL cs) = W cs := by
  have := W_clean_run cs
  unfold W wordsL cleanL
  cases hg : (cleanRun cs).2
  · rw [this.1 hg]
  · rw [this.2 hg, flush_flush]

/-! ### words joined by blanks -/
def joinL (ws : List (List Nat)) : List Nat := ws.tail.foldl (fun o x => o ++ [32] ++ x) (ws.headD [])
theorem joinL_snoc (ws : List (List Nat)) (x : List Nat) : joinL (ws ++ [x]) = if ws = [] then x else joinL ws ++ [32] ++ x := by
  cases ws with
  | nil => rfl
  | cons y ys => simp [joinL]
/-- A word: letters, at least one, that folding leaves. -/
def Good (x : List Nat) : Prop := x ≠ [] ∧ (∀ c ∈ x, letterc c = true ∧ foldc c = [c])
theorem wrun_good (ws : List (List Nat)) : ∀ (x cur : List Nat), (∀ c ∈ x, letterc c = true) → wrun (ws, cur) x = (ws, cur ++ x)
  | [], cur, _ => by simp [wrun]
  | c :: x, cur, h => by
    have h1 := h c (by simp)
    show wrun (wstep (ws, cur) c) x = _
    unfold wstep
    rw [h1]
    simp only [if_true]
    rw [wrun_good ws x (cur ++ [c]) (fun d hd => h d (by simp [hd]))]
    simp
theorem snoc_ind2 {p : List (List Nat) → Prop} (h0 : p []) (hs : ∀ l c, p l → p (l ++ [c])) : ∀ l, p l := by
  intro l
  have : ∀ n (l : List (List Nat)), l.length = n → p l := by
    intro n
    induction n with
    | zero => intro l h; rw [List.eq_nil_of_length_eq_zero h]; exact h0
    | succ n ih =>
      intro l h
      have hne : l ≠ [] := by intro e; rw [e] at h; cases h
      rw [← List.dropLast_concat_getLast hne]
      exact hs _ _ (ih _ (by simp [h]))
  exact this _ l rfl
theorem join_fix (ws : List (List Nat)) : (∀ x ∈ ws, Good x) → ∀ c ∈ joinL ws, foldc c = [c] := by
  refine snoc_ind2 (p := fun ws => (∀ x ∈ ws, Good x) → ∀ c ∈ joinL ws, foldc c = [c]) ?_ ?_ ws
  · intro _ c hc; cases hc
  · intro l x ih h c hc
    have hx := h x (by simp)
    rw [joinL_snoc] at hc
    split at hc
    · exact (hx.2 c hc).2
    · simp only [List.mem_append, List.mem_singleton] at hc
      rcases hc with (hc | hc) | hc
      · exact ih (fun y hy => h y (by simp [hy])) c hc
      · subst hc; rfl
      · exact (hx.2 c hc).2
theorem wst_join (ws : List (List Nat)) : ∀ x, (∀ y ∈ ws, Good y) → Good x → wst (joinL (ws ++ [x])) = (ws, x) := by
  refine snoc_ind2 (p := fun ws => ∀ x, (∀ y ∈ ws, Good y) → Good x → wst (joinL (ws ++ [x])) = (ws, x)) ?_ ?_ ws
  · intro x _ hx
    rw [joinL_snoc, if_pos rfl]
    unfold wst
    rw [wrun_good [] x [] (fun c hc => (hx.2 c hc).1)]
    rfl
  · intro l y ih x h hx
    have hy := h y (by simp)
    rw [joinL_snoc, if_neg (by simp)]
    have := ih y (fun z hz => h z (by simp [hz])) hy
    unfold wst at this ⊢
    rw [wrun_append, wrun_append, this, wrun_one]
    have l32 : letterc 32 = false := rfl
    have : wstep (l, y) 32 = (l ++ [y], []) := by
      unfold wstep flush
      rw [l32]
      simp [hy.1]
    rw [this, wrun_good _ x [] (fun c hc => (hx.2 c hc).1)]
    rfl
theorem words_join (ws : List (List Nat)) (h : ∀ y ∈ ws, Good y) : W (joinL ws) = ws := by
  unfold W
  rw [fold_of_fix _ (join_fix ws h)]
  by_cases hne : ws = []
  · subst hne; rfl
  · have hs := List.dropLast_concat_getLast hne
    have := wst_join ws.dropLast (ws.getLast hne) (fun y hy => h y (by rw [← hs]; exact List.mem_append_left _ hy)) (h _ (List.getLast_mem hne))
    rw [hs] at this
    unfold wordsL
    rw [this]
    unfold flush
    simp only
    rw [if_neg (h _ (List.getLast_mem hne)).1]
    exact hs
theorem words_good (fs : List Nat) : (∀ x ∈ fs, foldc x = [x]) → (∀ y ∈ (wst fs).1, Good y) ∧ (∀ c ∈ (wst fs).2, letterc c = true ∧ foldc c = [c]) := by
  refine snoc_ind (p := fun fs => (∀ x ∈ fs, foldc x = [x]) → (∀ y ∈ (wst fs).1, Good y) ∧ (∀ c ∈ (wst fs).2, letterc c = true ∧ foldc c = [c])) ?_ ?_ fs
  · intro _; exact ⟨(fun y hy => by cases hy), (fun c hc => by cases hc)⟩
  · intro l c ih h
    obtain ⟨i1, i2⟩ := ih (fun x hx => h x (by simp [hx]))
    have e : wst (l ++ [c]) = wstep (wst l) c := by unfold wst; rw [wrun_append, wrun_one]
    rw [e]
    unfold wstep
    by_cases hl : letterc c = true
    · rw [if_pos hl]
      refine ⟨i1, fun d hd => ?_⟩
      simp only [List.mem_append, List.mem_singleton] at hd
      rcases hd with hd | hd
      · exact i2 d hd
      · subst hd; exact ⟨hl, h d (by simp)⟩
    · rw [if_neg hl]
      unfold flush
      split
      · exact ⟨i1, fun d hd => by cases hd⟩
      · rename_i hne
        refine ⟨fun y hy => ?_, fun d hd => by cases hd⟩
        simp only [List.mem_append, List.mem_singleton] at hy
        rcases hy with hy | hy
        · exact i1 y hy
        · subst hy; exact ⟨hne, i2⟩
theorem W_good (cs : List Nat) : ∀ y ∈ W cs, Good y := by
  obtain ⟨h1, h2⟩ := words_good (foldL cs) (fold_fix cs)
  intro y hy
  unfold W wordsL flush at hy
  split at hy
  · exact h1 y hy
  · rename_i hne
    simp only [List.mem_append, List.mem_singleton] at hy
    rcases hy with hy | hy
    · exact h1 y hy
    · subst hy; exact ⟨hne, h2⟩
theorem W_join (cs : List Nat) : W (joinL (W cs)) = W cs := words_join _ (W_good cs)

theorem wst_OK (fs : List Nat) : OKs fs → (∀ y ∈ (wst fs).1, OKs y) ∧ OKs (wst fs).2 := by
  refine snoc_ind (p := fun fs => OKs fs → (∀ y ∈ (wst fs).1, OKs y) ∧ OKs (wst fs).2) ?_ ?_ fs
  · intro _; exact ⟨(fun y hy => by cases hy), OKs_nil⟩
  · intro l c ih h
    obtain ⟨h1, h2⟩ := OKs_append.1 h
    obtain ⟨i1, i2⟩ := ih h1
    have e : wst (l ++ [c]) = wstep (wst l) c := by unfold wst; rw [wrun_append, wrun_one]
    rw [e]
    unfold wstep
    split
    · exact ⟨i1, OKs_append.2 ⟨i2, h2⟩⟩
    · unfold flush
      split
      · exact ⟨i1, OKs_nil⟩
      · refine ⟨fun y hy => ?_, OKs_nil⟩
        simp only [List.mem_append, List.mem_singleton] at hy
        rcases hy with hy | hy
        · exact i1 y hy
        · subst hy; exact i2
theorem W_OK (cs : List Nat) (h : OKs cs) : ∀ y ∈ W cs, OKs y := by
  obtain ⟨h1, h2⟩ := wst_OK (foldL cs) (fold_OK cs h)
  intro y hy
  unfold W wordsL flush at hy
  split at hy
  · exact h1 y hy
  · simp only [List.mem_append, List.mem_singleton] at hy
    rcases hy with hy | hy
    · exact h1 y hy
    · subst hy; exact h2
theorem join_OK (ws : List (List Nat)) : (∀ x ∈ ws, OKs x) → OKs (joinL ws) := by
  refine snoc_ind2 (p := fun ws => (∀ x ∈ ws, OKs x) → OKs (joinL ws)) ?_ ?_ ws
  · intro _; exact OKs_nil
  · intro l x ih h
    rw [joinL_snoc]
    split
    · exact h x (by simp)
    · refine OKs_append.2 ⟨OKs_append.2 ⟨ih (fun y hy => h y (by simp [hy])), ?_⟩, h x (by simp)⟩
      intro c hc
      simp at hc
      subst hc
      exact okc_32

/-! ### lengths -/
def total (ws : List (List Nat)) : Nat := (ws.map fun x => x.length + 1).sum
theorem total_snoc (ws : List (List Nat)) (x : List Nat) : total (ws ++ [x]) = total ws + x.length + 1 := by simp [total]; omega
theorem len_total (ws : List (List Nat)) : ws.length ≤ total ws := by
  refine snoc_ind2 (p := fun ws => ws.length ≤ total ws) (by simp [total]) ?_ ws
  intro l x ih
  rw [total_snoc, List.length_append, List.length_singleton]
  omega
theorem join_total (ws : List (List Nat)) : (joinL ws).length ≤ total ws := by
  refine snoc_ind2 (p := fun ws => (joinL ws).length ≤ total ws) (by simp [joinL, total]) ?_ ws
  intro l x ih
  rw [total_snoc, joinL_snoc]
  split
  · omega
  · simp only [List.length_append, List.length_singleton]; omega
theorem wst_total (fs : List Nat) : total (wst fs).1 + (wst fs).2.length ≤ fs.length := by
  refine snoc_ind (p := fun fs => total (wst fs).1 + (wst fs).2.length ≤ fs.length) (by simp [wst, wrun, total]) ?_ fs
  intro l c ih
  have e : wst (l ++ [c]) = wstep (wst l) c := by unfold wst; rw [wrun_append, wrun_one]
  rw [e]
  unfold wstep
  split
  · simp only [List.length_append, List.length_singleton]; omega
  · unfold flush
    split
    · simp only [List.length_append, List.length_singleton, List.length_nil]; omega
    · simp only [total_snoc, List.length_append, List.length_singleton, List.length_nil]; omega
theorem W_total (cs : List Nat) : total (W cs) ≤ 2 * cs.length + 1 := by
  have h1 := wst_total (foldL cs)
  have h2 := fold_len cs
  unfold W wordsL flush
  split
  · simp only; omega
  · simp only [total_snoc]; omega
end

end Go.Proofs.YtfjfpefpdlecbaaGreatDoor
