/- Package field: slices.Clone and slices.DeleteFunc of subfields. -/
import Derived.Test.YtjajihemcaihmaaGreatDoorFC07
import Derived.Test.YtjajihemcaihmaaGreatDoorR07I
import Derived.Lib.SliceRun
import Derived.Laws.IdiomCopy
namespace Go.Proofs.YtjajihemcaihmaaGreatDoor
open Go.RowKit Go.PlainAid

theorem cellsL_length : ∀ L : List Sub, (cellsL L).length = L.length * 2
  | [] => rfl
  | s :: t => by
    have := cellsL_length t
    show (encS s ++ cellsL t).length = _
    rw [List.length_append, this, List.length_cons]
    simp only [encS, List.length_cons, List.length_nil]
    omega
theorem cellsL_one (L : List Sub) : ∀ u ∈ cellsL L, u.oneCell' = true := by
  intro u hu
  unfold cellsL at hu
  rw [List.mem_flatMap] at hu
  obtain ⟨s, _, hs⟩ := hu
  simp only [encS, List.mem_cons, List.not_mem_nil, or_false] at hs
  rcases hs with rfl | rfl <;> rfl
theorem QL.at {a : Addr} {n cap : Nat} {L : List Sub} {w : World} (h : QL (.slice (some a) n cap) L w) : ∀ j u, (cellsL L)[j]? = some u → w.cell? (a.add j) = some u := by
  obtain ⟨ao, cap', he, hc, hm, hn, hx⟩ := h
  simp only [Value.slice.injEq] at he
  obtain ⟨rfl, rfl, rfl⟩ := he
  intro j u hj
  have hlt : j < L.length * 2 := by
    have := (List.getElem?_eq_some_iff.1 hj).1
    rwa [cellsL_length] at this
  obtain ⟨g, o, he, hg, c1, c2⟩ := hx (j / 2) (by omega)
  obtain rfl := Option.some.inj he
  have hat := cellsL_at L (j / 2) (by omega)
  have hadd : (⟨g, o, none⟩ : Addr).add j = ⟨g, o + j, none⟩ := by unfold Addr.add; split <;> simp_all
  rw [hadd]
  rcases Nat.mod_two_eq_zero_or_one j with h | h
  · rw [show j = j / 2 * 2 by omega] at hj ⊢
    rw [hat.1] at hj
    rw [c1]
    exact hj
  · rw [show j = j / 2 * 2 + 1 by omega] at hj ⊢
    rw [hat.2] at hj
    rw [show o + (j / 2 * 2 + 1) = o + j / 2 * 2 + 1 by omega, c2]
    exact hj

set_option maxHeartbeats 8000000 in
theorem clone_any (L : List Sub) (u : Value) (w : World) (hu : QL u L w) (hs : L.length ≤ 100000) :
    Calls Tryz.prog 29 #[u] w fun e w' => ∃ v', e = .returned v' ∧ w'.ownsRow w.heap.size 32 2 v' L.length (cellsL L) ∧ Below w.heap.size w w' := by
  have q22 : ∀ (w : World) (a : Option Addr) (n c n' c' : Nat), (binOp .eql 23 (.slice a n c) (.slice none n' c')).run Tryz.prog w = .ok (.bool a.isNone) w := fun w a n c n' c' => Lib.run_eql_slice_nil w _ _ a n c n' c' Tryz.underlying23
  obtain ⟨i0, hi, hz0, hz1, hz2⟩ := info_sub
  obtain ⟨a, cap, rfl, hcap, hmax, hn, _⟩ := id hu
  cases a with
  | none =>
    obtain rfl := hn rfl
    have h0 : L = [] := List.eq_nil_of_length_eq_zero (by omega)
    subst h0
    clear hu
    go_enter Tryz.func29, Tryz.ntmps29
    go_wp2
    go_ret
    exact ⟨_, rfl, World.ownsRow_nil _ _ _ _, Below.refl _ _⟩
  | some ad =>
    have hc := hu.at
    have hc' : ∀ (o : Obj) j x, (cellsL L)[j]? = some x → (w.alloc o).cell? (ad.add j) = some x := fun o j x hj => Lib.cell?_alloc_some _ (hc j x hj)
    have HC := Lib.hid hc'
    have h1 := Lib.hid (cellsL_one L)
    have hl := Lib.hid (cellsL_length L)
    have HI := Lib.hid hi
    have HZ0 := Lib.hid hz0
    have HZ1 := Lib.hid hz1
    have HZ2 := Lib.hid hz2
    unfold maxLen at hmax
    clear hu hc hc' hi hz0 hz1 hz2
    generalize L.length = n at *
    go_enter Tryz.func29, Tryz.ntmps29
    go_wp2_with (at_builtin; refine wpList_append_own _ rfl _ _ 23 rfl w.heap.size 32 i0 (.agg #[.int .u8 0, .string ⟨#[]⟩]) 2 24 Tryz.underlying23 HI.out HZ0.out HZ1.out HZ2.out rfl (by decide) _ _ _ rfl (World.ownsRow_made w #[] 0 (Nat.le_refl _) (Nat.zero_le _) (by simp)) ad n cap (cellsL L) rfl ?qc1 ?qc2 ?qc3 ?qc4 ?qc5 ?qc6 ?_)
    case qc1 => exact hl.out
    case qc2 => exact HC.out _
    case qc3 => exact h1.out
    case qc4 => rw [Nat.zero_add]; unfold maxLen; omega
    case qc5 => rw [Nat.zero_add]; omega
    case qc6 => simp
    intro v' w1 hown hgrow hnil
    have hb := ((Below.refl _ w).alloc (Nat.le_refl _) (.cells #[] 32)).grown hgrow (by simp) (by intro k hk; simp [Value.ownBlock] at hk; omega)
    obtain ⟨ao, cp, rfl⟩ := own_form hown
    go_wp2
    go_ret
    exact ⟨_, rfl, by simpa using hown, hb⟩

/-! Stores into a row of one's own. -/
theorem own_set {w : World} {B e size n g cap p : Nat} {xs : List Value} (h : w.ownsRow B e size (.slice (some ⟨g, 0, none⟩) n cap) n xs) (x : Value) :
    (w.setCell ⟨g, p, none⟩ x).ownsRow B e size (.slice (some ⟨g, 0, none⟩) n cap) n (xs.set p x) := by
  refine ⟨by rw [List.length_set]; exact h.1, ?_⟩
  rcases h.2 with ⟨h0, _⟩ | ⟨g', cap', cur, hv, hb, hg, hc, hm, hs, ht⟩
  · cases h0
  · simp only [Value.slice.injEq, Option.some.injEq, Addr.mk.injEq] at hv
    obtain ⟨⟨rfl, _⟩, _, rfl⟩ := hv
    refine .inr ⟨g, cap, cur.setIfInBounds p x, rfl, hb, ?_, hc, hm, by simpa using hs, ?_⟩
    · simp [World.setCell, Array.getElem?_modify, hg]
    · rw [Array.toList_setIfInBounds, List.take_set, ht]
theorem own_shrink {w : World} {B e size n i g cap : Nat} {xs : List Value} (h : w.ownsRow B e size (.slice (some ⟨g, 0, none⟩) n cap) n xs) (hi : i ≤ n) :
    w.ownsRow B e size (.slice (some ⟨g, 0, none⟩) i cap) i (xs.take (i * size)) := by
  have hle : i * size ≤ n * size := Nat.mul_le_mul_right _ hi
  refine ⟨by rw [List.length_take, h.1]; omega, ?_⟩
  rcases h.2 with ⟨h0, _⟩ | ⟨g', cap', cur, hv, hb, hg, hc, hm, hs, ht⟩
  · cases h0
  · simp only [Value.slice.injEq, Option.some.injEq, Addr.mk.injEq] at hv
    obtain ⟨⟨rfl, _⟩, _, rfl⟩ := hv
    refine .inr ⟨g, cap, cur, rfl, hb, hg, Nat.le_trans hi hc, hm, hs, ?_⟩
    rw [← ht, List.take_take, Nat.min_eq_left hle]
theorem own_setCells {B e size n g cap : Nat} : ∀ (zs : List Value) (o : Nat) (w : World) (xs : List Value), w.ownsRow B e size (.slice (some ⟨g, 0, none⟩) n cap) n xs → o + zs.length ≤ n * size →
    ∃ ys, (w.setCells g o zs).ownsRow B e size (.slice (some ⟨g, 0, none⟩) n cap) n ys ∧ ys.take o = xs.take o
  | [], o, w, xs, h, _ => ⟨xs, h, rfl⟩
  | z :: zs, o, w, xs, h, hl => by
    simp only [List.length_cons] at hl
    obtain ⟨ys, h1, h2⟩ := own_setCells zs (o + 1) (w.setCell ⟨g, o, none⟩ z) (xs.set o z) (own_set h z) (by omega)
    refine ⟨ys, h1, ?_⟩
    have h3 := congrArg (List.take o) h2
    rw [List.take_take, List.take_take, Nat.min_eq_left (by omega)] at h3
    rw [h3, List.take_set, List.set_eq_of_length_le (by rw [List.length_take]; omega)]
theorem setCells_below {B g : Nat} (hB : B ≤ g) : ∀ (zs : List Value) (o : Nat) (a w : World), Below B a w → Below B a (w.setCells g o zs)
  | [], _, _, _, h => h
  | z :: zs, o, a, w, h => setCells_below hB zs (o + 1) a (w.setCell ⟨g, o, none⟩ z) (h.setCell (p := ⟨g, o, none⟩) hB z)
theorem own_facts {w : World} {B e size n g cap : Nat} {xs : List Value} (h : w.ownsRow B e size (.slice (some ⟨g, 0, none⟩) n cap) n xs) :
    B ≤ g ∧ g < w.heap.size ∧ n ≤ cap ∧ cap ≤ maxLen ∧ (∀ p, w.frozen? ⟨g, p, none⟩ = false) ∧ (∀ p, p < n * size → (w.cell? ⟨g, p, none⟩).isSome = true) := by
  rcases h.2 with ⟨h0, _⟩ | ⟨g', cap', cur, hv, hb, hg, hc, hm, hs, ht⟩
  · cases h0
  · simp only [Value.slice.injEq, Option.some.injEq, Addr.mk.injEq] at hv
    obtain ⟨⟨rfl, _⟩, _, rfl⟩ := hv
    refine ⟨hb, (Array.getElem?_eq_some_iff.1 hg).1, hc, hm, fun p => Lib.frozen_of_heap hg p, fun p hp => ?_⟩
    have hle : n * size ≤ cap * size := Nat.mul_le_mul_right _ hc
    rw [Lib.cell_of_heap hg]
    have : p < cur.size := by omega
    simp [this]
/-- clear of a part of a row of subfields. -/
theorem run_clear (w : World) (b o n c : Nat) (hn : 0 < n) (hc : ∀ j, j < n * 2 → (w.cell? ⟨b, o + j, none⟩).isSome = true) (hf : ∀ j, j < n * 2 → w.frozen? ⟨b, o + j, none⟩ = false) :
    ∃ zs : List Value, zs.length = n * 2 ∧ ∀ ty, (Builtin.clear_ #[23] ty #[.slice (some ⟨b, o, none⟩) n c]).run Tryz.prog w = .ok (.tuple #[]) (w.setCells b o zs) := by
  obtain ⟨zs, hzs⟩ : ∃ zs, (Builtin.zeroCells #[.int .u8 0, .string ⟨#[]⟩] n).toList = zs := ⟨_, rfl⟩
  have hl : zs.length = n * 2 := by rw [← hzs]; simp [Builtin.zeroCells]
  have hone : ∀ v ∈ zs, v.oneCell' = true := by
    intro v hv
    rw [← hzs] at hv
    simp only [Builtin.zeroCells, Array.toList_map, Array.toList_range, List.mem_map] at hv
    obtain ⟨i, _, rfl⟩ := hv
    have : i % (#[Value.int .u8 0, Value.string ⟨#[]⟩] : Array Value).size = 0 ∨ i % (#[Value.int .u8 0, Value.string ⟨#[]⟩] : Array Value).size = 1 := Nat.mod_two_eq_zero_or_one i
    rcases this with h | h <;> rw [h] <;> rfl
  refine ⟨zs, hl, fun ty => ?_⟩
  have hst := run_storeCells_cells (P := Tryz.prog) b o zs 0 w (by simpa [hl] using hc) (by simpa [hl] using hf) hone
  simp only [Nat.add_zero] at hst
  obtain ⟨m, rfl⟩ : ∃ m, n = m + 1 := ⟨n - 1, by omega⟩
  have hv : ∀ w, (zeroValue 32).run Tryz.prog w = .ok (.agg #[.int .u8 0, .string ⟨#[]⟩]) w := fun w => by kernel_rfl
  have hcells : (Value.agg #[.int .u8 0, .string ⟨#[]⟩]).cells = #[.int .u8 0, .string ⟨#[]⟩] := by rfl
  simp [Builtin.clear_, run_underlying Tryz.underlying23, hv, hcells, hzs, hst]

/-! What DeleteFunc keeps. -/
def keepL (c : UInt8) (L : List Sub) : List Sub := L.filter fun s => decide (s.1 ≠ c)
theorem keepL_all (c : UInt8) (L : List Sub) (h : ∀ j, j < L.length → (L.getD j sub0).1 ≠ c) : keepL c L = L := by
  unfold keepL
  rw [List.filter_eq_self]
  intro s hs
  obtain ⟨j, hj, rfl⟩ := List.getElem_of_mem hs
  have := h j hj
  rw [List.getD_eq_getElem?_getD, List.getElem?_eq_getElem hj] at this
  simpa using this
theorem take_snoc (L : List Sub) (j : Nat) (h : j < L.length) : L.take (j + 1) = L.take j ++ [L.getD j sub0] := by
  rw [List.take_succ_eq_append_getElem h, List.getD_eq_getElem?_getD, List.getElem?_eq_getElem h]
  rfl
theorem keepL_snoc (c : UInt8) (L : List Sub) (j : Nat) (h : j < L.length) : keepL c (L.take (j + 1)) = keepL c (L.take j) ++ (if (L.getD j sub0).1 ≠ c then [L.getD j sub0] else []) := by
  rw [take_snoc L j h]
  unfold keepL
  rw [List.filter_append]
  congr 1
  generalize L.getD j sub0 = x
  by_cases hc : x.1 ≠ c
  · rw [if_pos hc]; simp [hc]
  · rw [if_neg hc]; simp [Decidable.not_not.1 hc]
/-- The row, in which i of the first j subfields are kept. -/
structure KI (c : UInt8) (L : List Sub) (i j : Nat) (M : List Sub) : Prop where
  len : M.length = L.length
  le : j ≤ L.length
  lt : i < j
  low : M.take i = keepL c (L.take j)
  high : ∀ p, j ≤ p → p < L.length → M.getD p sub0 = L.getD p sub0
theorem KI.start (c : UInt8) (L : List Sub) (k : Nat) (hk : k < L.length) (hj : ∀ j, j < k → (L.getD j sub0).1 ≠ c) (he : (L.getD k sub0).1 = c) : KI c L k (k + 1) L := by
  refine ⟨rfl, hk, Nat.lt_succ_self k, ?_, fun _ _ _ => rfl⟩
  rw [keepL_snoc c L k hk, if_neg (fun h => h he), List.append_nil]
  symm
  refine keepL_all c _ (fun j hj' => ?_)
  rw [List.length_take] at hj'
  have := hj j (by omega)
  rwa [List.getD_eq_getElem?_getD, List.getElem?_take_of_lt (by omega), ← List.getD_eq_getElem?_getD]
theorem KI.skip {c : UInt8} {L M : List Sub} {i j : Nat} (h : KI c L i j M) (hj : j < L.length) (he : (L.getD j sub0).1 = c) : KI c L i (j + 1) M := by
  refine ⟨h.len, hj, Nat.lt_succ_of_lt h.lt, ?_, fun p hp hl => h.high p (by omega) hl⟩
  rw [keepL_snoc c L j hj, if_neg (fun h => h he), List.append_nil, h.low]
theorem KI.keep {c : UInt8} {L M : List Sub} {i j : Nat} (h : KI c L i j M) (hj : j < L.length) (he : (L.getD j sub0).1 ≠ c) : KI c L (i + 1) (j + 1) (M.set i (L.getD j sub0)) := by
  have hi := h.lt
  have hil : i < M.length := by rw [h.len]; omega
  refine ⟨by rw [List.length_set, h.len], hj, by omega, ?_, fun p hp hl => ?_⟩
  · rw [keepL_snoc c L j hj, if_pos he, ← h.low]
    have e : (M.set i (L.getD j sub0)).take (i + 1) = (M.set i (L.getD j sub0)).take i ++ [(M.set i (L.getD j sub0)).getD i sub0] := take_snoc _ i (by rw [List.length_set]; exact hil)
    rw [e, List.take_set, List.set_eq_of_length_le (by rw [List.length_take]; omega)]
    congr 1
    rw [List.getD_eq_getElem?_getD, List.getElem?_set_self hil]
    rfl
  · have := h.high p (by omega) hl
    rw [List.getD_eq_getElem?_getD] at this ⊢
    rw [List.getElem?_set_ne (by omega)]
    exact this
theorem cellsL_set : ∀ (M : List Sub) (i : Nat) (s : Sub), i < M.length → cellsL (M.set i s) = ((cellsL M).set (i * 2) (.int .u8 (s.1.toNat : Int))).set (i * 2 + 1) (.string (S s.2))
  | [], _, _, h => by cases h
  | x :: t, 0, s, _ => rfl
  | x :: t, i + 1, s, h => by
    have ih := cellsL_set t i s (by simpa using h)
    have e : cellsL (x :: t) = .int .u8 (x.1.toNat : Int) :: .string (S x.2) :: cellsL t := rfl
    show cellsL (x :: t.set i s) = _
    have e2 : cellsL (x :: t.set i s) = .int .u8 (x.1.toNat : Int) :: .string (S x.2) :: cellsL (t.set i s) := rfl
    rw [e2, ih, e, show (i + 1) * 2 = i * 2 + 1 + 1 by omega]
    rfl
theorem cellsL_take : ∀ (M : List Sub) (i : Nat), (cellsL M).take (i * 2) = cellsL (M.take i)
  | [], i => by simp [cellsL]
  | x :: t, 0 => by simp [cellsL]
  | x :: t, i + 1 => by
    have ih := cellsL_take t i
    have e : cellsL (x :: t) = .int .u8 (x.1.toNat : Int) :: .string (S x.2) :: cellsL t := rfl
    have e2 : cellsL (x :: t.take i) = .int .u8 (x.1.toNat : Int) :: .string (S x.2) :: cellsL (t.take i) := rfl
    rw [List.take_succ_cons, e2, ← ih, e, show (i + 1) * 2 = i * 2 + 1 + 1 by omega]
    rfl
end Go.Proofs.YtjajihemcaihmaaGreatDoor
