/- libraryref07: Set. -/
import Derived.Test.YtjajihemcaihmaaDoorR07D
import Derived.Lib.Builder
namespace Go.Proofs.YtjajihemcaihmaaDoor
open Go.RowKit Go.PlainAid

def encS (s : Sub) : List Value := [.int .u8 (s.1.toNat : Int), .string (S s.2)]
def cellsL (L : List Sub) : List Value := L.flatMap encS
theorem cellsL_snoc (M : List Sub) (s : Sub) : cellsL (M ++ [s]) = cellsL M ++ encS s := by simp [cellsL]
theorem cellsL_at : ∀ (L : List Sub) (i : Nat), i < L.length → (cellsL L)[i * 2]? = some (.int .u8 ((L.getD i sub0).1.toNat : Int)) ∧ (cellsL L)[i * 2 + 1]? = some (.string (S (L.getD i sub0).2))
  | [], _, h => by cases h
  | s :: t, 0, _ => ⟨rfl, rfl⟩
  | s :: t, i + 1, h => by
    have := cellsL_at t i (by simpa using h)
    have e : cellsL (s :: t) = .int .u8 (s.1.toNat : Int) :: .string (S s.2) :: cellsL t := rfl
    rw [e, show (i + 1) * 2 = i * 2 + 1 + 1 by omega, List.getElem?_cons_succ, List.getElem?_cons_succ, List.getElem?_cons_succ, List.getElem?_cons_succ]
    exact this
/-- A row of subfields of the call's own, nil while it is empty. -/
theorem QL.of_row {B : Nat} {v : Value} {L : List Sub} {w : World} (h : w.ownsRow B 45 2 v L.length (cellsL L)) : QL v L w := by
  rcases h.2 with ⟨rfl, h0⟩ | ⟨g, cap, cur, rfl, hb, hg, hc, hm, hs, ht⟩
  · have : L = [] := List.eq_nil_of_length_eq_zero h0
    subst this
    exact ⟨none, 0, rfl, Nat.le_refl _, Nat.zero_le _, fun _ => rfl, fun i hi => by cases hi⟩
  · refine ⟨_, cap, rfl, hc, hm, (fun h => by cases h), fun i hi => ⟨g, 0, rfl, (Array.getElem?_eq_some_iff.1 hg).1, ?_, ?_⟩⟩
    · have := h.cells (g := g) rfl _ _ (cellsL_at L i hi).1
      have hadd : (⟨g, 0, none⟩ : Addr).add (i * 2) = ⟨g, i * 2, none⟩ := by unfold Addr.add; split <;> simp_all
      rw [hadd] at this
      rw [Nat.zero_add]
      exact this
    · have := h.cells (g := g) rfl _ _ (cellsL_at L i hi).2
      have hadd : (⟨g, 0, none⟩ : Addr).add (i * 2 + 1) = ⟨g, i * 2 + 1, none⟩ := by unfold Addr.add; split <;> simp_all
      rw [hadd] at this
      rw [Nat.zero_add]
      exact this
theorem own_setCell {w : World} {B e size n : Nat} {v : Value} {xs : List Value} (h : w.ownsRow B e size v n xs) {p : Addr} (hp : p.block < B) (u : Value) : (w.setCell p u).ownsRow B e size v n xs := by
  refine ⟨h.1, ?_⟩
  rcases h.2 with hn | ⟨g, cap, cur, hv, hB', hg, rest⟩
  · exact .inl hn
  · exact .inr ⟨g, cap, cur, hv, hB', (Below.heap_setCell _ _ _ _ (by omega)).trans hg, rest⟩
theorem infoSub : (Tryd.prog.info? 45).map (fun i => (i.zero, i.size, i.bytes)) = some (some (.agg #[.int .u8 0, .string ⟨#[]⟩]), 2, 24) := by kernel_rfl
theorem info_sub : ∃ i0, Tryd.prog.info? 45 = some i0 ∧ i0.zero = some (.agg #[.int .u8 0, .string ⟨#[]⟩]) ∧ i0.size = 2 ∧ i0.bytes = 24 := by
  obtain ⟨i0, h0, h2⟩ := Option.map_eq_some_iff.1 infoSub
  simp only [Prod.mk.injEq] at h2
  exact ⟨i0, h0, h2.1, h2.2.1, h2.2.2⟩
theorem cells_two (w : World) (x y : Value) (t : TypeId) : ∀ j u, [x, y][j]? = some u → (w.alloc (.cells #[x, y] t)).cell? ((⟨w.heap.size, 0, none⟩ : Addr).add j) = some u := by
  intro j u hj
  match j, hj with
  | 0, hj => simp at hj; subst hj; simp [Addr.add]
  | 1, hj => simp at hj; subst hj; simp [Addr.add]
  | (j + 2), hj => simp at hj

/-- What Set has made of the first k subfields, and whether the value has its place. -/
def setK (L : List Sub) (c : UInt8) (v : List UInt8) : Nat → List Sub × Bool
  | 0 => ([], decide (v = []))
  | k + 1 => if (L.getD k sub0).1 ≠ c then ((setK L c v k).1 ++ [L.getD k sub0], (setK L c v k).2)
    else if v = [] then setK L c v k else if (setK L c v k).2 = true then ((setK L c v k).1 ++ [L.getD k sub0], true) else ((setK L c v k).1 ++ [(c, v)], true)
def setR (L : List Sub) (c : UInt8) (v : List UInt8) : List Sub :=
  if (setK L c v L.length).2 = true then (setK L c v L.length).1 else (setK L c v L.length).1 ++ [(c, v)]
theorem setK_le (L : List Sub) (c : UInt8) (v : List UInt8) : ∀ k, (setK L c v k).1.length ≤ k
  | 0 => Nat.le_refl _
  | k + 1 => by
    have h := setK_le L c v k
    rw [setK]
    split
    · simp; omega
    · split
      · omega
      · split <;> simp <;> omega

theorem own_form {w : World} {B e size n : Nat} {v : Value} {xs : List Value} (h : w.ownsRow B e size v n xs) : ∃ ao cp, v = .slice ao n cp := by
  rcases h.2 with ⟨h0, h1⟩ | ⟨g, cap, cur, hv, _⟩
  · exact ⟨none, 0, by rw [h0, h1]⟩
  · exact ⟨_, cap, hv⟩
/-- What Set's last steps meet, and where they end. -/
theorem set_end {w W0 wz : World} {f : Fld} {u0 v : Value} {L : List Sub} (hlt : w.heap.size < W0.heap.size) (hlt1 : w.heap.size + 1 < W0.heap.size) (b0 : Below w.heap.size w W0)
    (hF : W0.heap[w.heap.size]? = some (.cells #[.string (S f.tag), .string (S f.ind), u0, .int .i64 f.auth] 24 (0, 0)))
    (hR : W0.heap[w.heap.size + 1]? = some (.cells #[.string ⟨#[]⟩, .string ⟨#[]⟩, .slice none 0 0, .int .i64 0] 24 (0, 0)))
    (hb : Below W0.heap.size W0 wz) (hown : wz.ownsRow W0.heap.size 45 2 v L.length (cellsL L)) :
    (wz.cell? ⟨w.heap.size, 0, none⟩ = some (.string (S f.tag)) ∧ wz.cell? ⟨w.heap.size, 1, none⟩ = some (.string (S f.ind)) ∧ wz.cell? ⟨w.heap.size, 2, none⟩ = some u0 ∧ wz.cell? ⟨w.heap.size, 3, none⟩ = some (.int .i64 f.auth)) ∧
    wz.frozen? ⟨w.heap.size, 2, none⟩ = false ∧
    (wz.cell? ⟨w.heap.size + 1, 0, none⟩ = some (.string ⟨#[]⟩) ∧ wz.cell? ⟨w.heap.size + 1, 1, none⟩ = some (.string ⟨#[]⟩) ∧ wz.cell? ⟨w.heap.size + 1, 2, none⟩ = some (.slice none 0 0) ∧ wz.cell? ⟨w.heap.size + 1, 3, none⟩ = some (.int .i64 0)) ∧
    (wz.frozen? ⟨w.heap.size + 1, 0, none⟩ = false ∧ wz.frozen? ⟨w.heap.size + 1, 1, none⟩ = false ∧ wz.frozen? ⟨w.heap.size + 1, 2, none⟩ = false ∧ wz.frozen? ⟨w.heap.size + 1, 3, none⟩ = false) ∧
    RowKit.Hid ((((((wz.setCell ⟨w.heap.size, 2, none⟩ v).setCell ⟨w.heap.size + 1, 0, none⟩ (.string (S f.tag))).setCell ⟨w.heap.size + 1, 1, none⟩ (.string (S f.ind))).setCell ⟨w.heap.size + 1, 2, none⟩ v).setCell ⟨w.heap.size + 1, 3, none⟩ (.int .i64 f.auth)).heap[w.heap.size + 1]? = some (.cells #[.string (S f.tag), .string (S f.ind), v, .int .i64 f.auth] 24 (0, 0))) ∧
    RowKit.Hid (QL v L (((((wz.setCell ⟨w.heap.size, 2, none⟩ v).setCell ⟨w.heap.size + 1, 0, none⟩ (.string (S f.tag))).setCell ⟨w.heap.size + 1, 1, none⟩ (.string (S f.ind))).setCell ⟨w.heap.size + 1, 2, none⟩ v).setCell ⟨w.heap.size + 1, 3, none⟩ (.int .i64 f.auth))) ∧ RowKit.Hid (Below w.heap.size w (((((wz.setCell ⟨w.heap.size, 2, none⟩ v).setCell ⟨w.heap.size + 1, 0, none⟩ (.string (S f.tag))).setCell ⟨w.heap.size + 1, 1, none⟩ (.string (S f.ind))).setCell ⟨w.heap.size + 1, 2, none⟩ v).setCell ⟨w.heap.size + 1, 3, none⟩ (.int .i64 f.auth))) := by
  have zF := (hb.block _ hlt).trans hF
  have zR := (hb.block _ hlt1).trans hR
  refine ⟨⟨?_, ?_, ?_, ?_⟩, Lib.frozen_of_heap zF 2, ⟨?_, ?_, ?_, ?_⟩, ⟨Lib.frozen_of_heap zR 0, Lib.frozen_of_heap zR 1, Lib.frozen_of_heap zR 2, Lib.frozen_of_heap zR 3⟩, ?_, ?_, ?_⟩
  · rw [Lib.cell_of_heap zF]; rfl
  · rw [Lib.cell_of_heap zF]; rfl
  · rw [Lib.cell_of_heap zF]; rfl
  · rw [Lib.cell_of_heap zF]; rfl
  · rw [Lib.cell_of_heap zR]; rfl
  · rw [Lib.cell_of_heap zR]; rfl
  · rw [Lib.cell_of_heap zR]; rfl
  · rw [Lib.cell_of_heap zR]; rfl
  · show (((((wz.setCell ⟨w.heap.size, 2, none⟩ v).setCell ⟨w.heap.size + 1, 0, none⟩ (.string (S f.tag))).setCell ⟨w.heap.size + 1, 1, none⟩ (.string (S f.ind))).setCell ⟨w.heap.size + 1, 2, none⟩ v).setCell ⟨w.heap.size + 1, 3, none⟩ (.int .i64 f.auth)).heap[w.heap.size + 1]? = _
    simp [World.setCell, Array.getElem?_modify, zR]
  · exact QL.of_row (own_setCell (own_setCell (own_setCell (own_setCell (own_setCell hown (p := ⟨w.heap.size, 2, none⟩) hlt _) (p := ⟨w.heap.size + 1, 0, none⟩) hlt1 _) (p := ⟨w.heap.size + 1, 1, none⟩) hlt1 _) (p := ⟨w.heap.size + 1, 2, none⟩) hlt1 _) (p := ⟨w.heap.size + 1, 3, none⟩) hlt1 _)
  · exact (((((b0.trans (hb.mono b0.size)).setCell (p := ⟨w.heap.size, 2, none⟩) (Nat.le_refl _) _).setCell (p := ⟨w.heap.size + 1, 0, none⟩) (Nat.le_succ _) _).setCell (p := ⟨w.heap.size + 1, 1, none⟩) (Nat.le_succ _) _).setCell (p := ⟨w.heap.size + 1, 2, none⟩) (Nat.le_succ _) _).setCell (p := ⟨w.heap.size + 1, 3, none⟩) (Nat.le_succ _) _

set_option maxHeartbeats 16000000 in
theorem refSet_any (f : Fld) (u : Value) (w : World) (hu : QL u f.subs w) (code : UInt8) (val : List UInt8) (hs : f.subs.length ≤ 100000) :
    Calls Tryd.prog 23 #[FV f u, u8V code, .string (S val)] w fun e w' => ∃ v', e = .returned (FV { f with subs := setR f.subs code val } v') ∧ QL v' (setR f.subs code val) w' ∧ Below w.heap.size w w' := by
  obtain ⟨a, cap, rfl, hcap, hmax, _, hcell⟩ := hu
  unfold maxLen at hmax
  unfold FV u8V
  have HLe := Lib.hid (setK_le f.subs code val)
  have HR := Lib.hid (show setR f.subs code val = if (setK f.subs code val f.subs.length).2 = true then (setK f.subs code val f.subs.length).1 else (setK f.subs code val f.subs.length).1 ++ [(code, val)] from rfl)
  have HK := Lib.hid (show ∀ k, setK f.subs code val (k + 1) = if (f.subs.getD k sub0).1 ≠ code then ((setK f.subs code val k).1 ++ [f.subs.getD k sub0], (setK f.subs code val k).2)
    else if val = [] then setK f.subs code val k else if (setK f.subs code val k).2 = true then ((setK f.subs code val k).1 ++ [f.subs.getD k sub0], true) else ((setK f.subs code val k).1 ++ [(code, val)], true) from fun k => rfl)
  have HK0 := Lib.hid (show setK f.subs code val 0 = ([], decide (val = [])) from rfl)
  obtain ⟨n, hn⟩ : ∃ n, f.subs.length = n := ⟨_, rfl⟩
  have HCell := Lib.hid hcell
  rw [hn] at hcap hs HR ⊢
  have HN := Lib.hid hn
  clear hcell hn
  generalize setK f.subs code val = K at *
  generalize setR f.subs code val = R at *
  obtain ⟨W0, hW0⟩ : ∃ W0, (w.alloc (.cells #[.string (S f.tag), .string (S f.ind), .slice a n cap, .int .i64 f.auth] 24)).alloc (.cells #[.string ⟨#[]⟩, .string ⟨#[]⟩, .slice none 0 0, .int .i64 0] 24) = W0 := ⟨_, rfl⟩
  have b0 : Below w.heap.size w W0 := by rw [← hW0]; exact ((Below.refl w.heap.size w).alloc (Nat.le_refl _) _).alloc (by simp) _
  have hsz0 : W0.heap.size = w.heap.size + 2 := by rw [← hW0]; simp
  have k2 : W0.cell? ⟨w.heap.size, 2, none⟩ = some (.slice a n cap) := by rw [← hW0]; simp
  have hF : W0.heap[w.heap.size]? = some (.cells #[.string (S f.tag), .string (S f.ind), .slice a n cap, .int .i64 f.auth] 24 (0, 0)) := by
    rw [← hW0]
    exact (Below.heap_alloc _ _ _ (by simp)).trans (heap_alloc_new w _)
  have hR : W0.heap[w.heap.size + 1]? = some (.cells #[.string ⟨#[]⟩, .string ⟨#[]⟩, .slice none 0 0, .int .i64 0] 24 (0, 0)) := by
    rw [← hW0]
    have := heap_alloc_new (w.alloc (.cells #[.string (S f.tag), .string (S f.ind), .slice a n cap, .int .i64 f.auth] 24)) (.cells #[.string ⟨#[]⟩, .string ⟨#[]⟩, .slice none 0 0, .int .i64 0] 24)
    simpa using this
  have hlt : w.heap.size < W0.heap.size := by omega
  have hlt1 : w.heap.size + 1 < W0.heap.size := by omega
  clear hsz0
  have HW0 := Lib.hid hW0
  have HF := Lib.hid hF
  have HRb := Lib.hid hR
  clear hW0 hF hR
  obtain ⟨i0, hi, hz0, hz1, hz2⟩ := info_sub
  have HZ0 := Lib.hid hz0
  have HZ1 := Lib.hid hz1
  have HZ2 := Lib.hid hz2
  have HI := Lib.hid hi
  clear hi hz0 hz1 hz2
  have hE2 : (S val).toList.isEmpty = decide (val = []) := by
    rw [ByteArray.toList_eq]
    show val.isEmpty = _
    cases val with
    | nil => rfl
    | cons y t => simp
  obtain ⟨em, hem⟩ : ∃ em, decide (val = []) = em := ⟨_, rfl⟩
  rw [hem] at hE2 HK0
  have HEM := Lib.hid hem
  clear hem
  go_enter Tryd.func23, Tryd.ntmps23
  go_wp2
  rw [HW0.out]
  go_loopw [7, 8, 9] (fun l d i wr => ∃ k : Nat, k ≤ n ∧ d = .bool (K k).2 ∧ i = .int .i64 (k : Int) ∧ wr.ownsRow W0.heap.size 45 2 l (K k).1.length (cellsL (K k).1) ∧ Below W0.heap.size W0 wr) (fun _ _ i _ => n - (intOf i).toNat)
  case atStart => exact ⟨0, Nat.zero_le _, by rw [HK0.out], rfl, by rw [HK0.out]; exact World.ownsRow_nil _ _ _ _, Below.refl _ _⟩
  case round =>
    obtain ⟨k, hk, rfl, rfl, hown, hbw⟩ := hrel
    have j2 := (hbw.cell (p := ⟨w.heap.size, 2, none⟩) hlt).trans k2
    by_cases hkn : k < n
    · obtain ⟨g, o, rfl, hg, c1, c2⟩ := HCell.out k (by rw [HN.out]; exact hkn)
      have hg0 : g < W0.heap.size := by omega
      have c1 : wr.cell? ⟨g, o + k * 2, none⟩ = some (.int .u8 ((f.subs.getD k sub0).1.toNat : Int)) := ((hbw.cell (p := ⟨g, o + k * 2, none⟩) hg0).trans (b0.cell (p := ⟨g, o + k * 2, none⟩) hg)).trans c1
      have c2 : wr.cell? ⟨g, o + k * 2 + 1, none⟩ = some (.string (S (f.subs.getD k sub0).2)) := ((hbw.cell (p := ⟨g, o + k * 2 + 1, none⟩) hg0).trans (b0.cell (p := ⟨g, o + k * 2 + 1, none⟩) hg)).trans c2
      have i1 : (0 : Int) ≤ (k : Int) := by omega
      have i2 : (k : Int) < (n : Int) := by omega
      have hsz := hbw.size
      have hll := HLe.out k
      have hK := HK.out k
      obtain ⟨⟨sc, sv⟩, hsub⟩ : ∃ z, f.subs.getD k sub0 = z := ⟨_, rfl⟩
      rw [hsub] at c1 c2 hK
      obtain ⟨⟨M, d⟩, hM⟩ : ∃ z, K k = z := ⟨_, rfl⟩
      rw [hM] at hown hll hK ⊢
      clear hsub
      obtain ⟨m, hm⟩ : ∃ m, M.length = m := ⟨_, rfl⟩
      have hown : wr.ownsRow W0.heap.size 45 2 u7 M.length (cellsL M) := hown
      have hll : M.length ≤ k := hll
      have Hown := Lib.hid hown
      rw [hm] at hown hll
      have HM := Lib.hid hm
      have Hbw := Lib.hid hbw
      have hownA := hown.alloc (.cells #[.int .u8 (sc.toNat : Int), .string (S sv)] 45)
      have hownB := hownA.alloc (.cells #[.int .u8 (sc.toNat : Int), .string (S sv)] 45)
      have hownC := hownA.alloc (.cells #[.int .u8 (code.toNat : Int), .string (S val)] 45)
      have HownB := Lib.hid hownB
      have HownC := Lib.hid hownC
      have hct := cells_two (wr.alloc (.cells #[.int .u8 (sc.toNat : Int), .string (S sv)] 45)) (.int .u8 (sc.toNat : Int)) (.string (S sv)) 45
      have hcu := cells_two (wr.alloc (.cells #[.int .u8 (sc.toNat : Int), .string (S sv)] 45)) (.int .u8 (code.toNat : Int)) (.string (S val)) 45
      rw [show (wr.alloc (.cells #[.int .u8 (sc.toNat : Int), .string (S sv)] 45)).heap.size = wr.heap.size + 1 by simp] at hct hcu
      have HCT := Lib.hid hct
      have HCU := Lib.hid hcu
      clear hown hbw hm hM hownA hownB hownC hct hcu
      by_cases hsc : sc ≠ code
      · rw [if_pos hsc] at hK
        have HKK := Lib.hid hK
        have t1 : (((sc.toNat : Nat) : Int) != ((code.toNat : Nat) : Int)) = true := by
          have : sc.toNat ≠ code.toNat := fun e => hsc (UInt8.toNat_inj.1 e)
          simp; omega
        clear hK hsc
        go_wp2_with (at_builtin; refine wpList_append_own _ rfl _ _ 22 rfl W0.heap.size 45 i0 (.agg #[.int .u8 0, .string ⟨#[]⟩]) 2 24 Tryd.underlying22 HI.out HZ0.out HZ1.out HZ2.out rfl (by decide) _ _ _ rfl HownB.out ⟨wr.heap.size + 1, 0, none⟩ 1 1 [.int .u8 (sc.toNat : Int), .string (S sv)] rfl rfl HCT.out (by intro u hu; simp at hu; rcases hu with rfl | rfl <;> rfl) (by unfold maxLen; omega) (by omega) (by simp; omega) ?_; intro v3 w3 hown3 hgrow3 hnil3)
        go_roundw
        case rel =>
          refine ⟨k + 1, by omega, by rw [HKK.out], by go_num, ?_, ((Hbw.out.alloc (by omega) _).alloc (by simp; omega) _).grown hgrow3 (by simp; omega) (fun j hj => (HownB.out.lt j hj).1)⟩
          rw [HKK.out]
          show w3.ownsRow _ _ _ _ (M ++ [(sc, sv)]).length (cellsL (M ++ [(sc, sv)]))
          rw [cellsL_snoc, List.length_append, HM.out]
          exact hown3
        case measure => simp [intOf]; omega
      · have hsc : sc = code := Decidable.not_not.1 hsc
        subst hsc
        rw [if_neg (fun h => h rfl)] at hK
        have t1 : (((sc.toNat : Nat) : Int) != ((sc.toNat : Nat) : Int)) = false := by simp
        by_cases hv : val = []
        · rw [if_pos hv] at hK
          obtain rfl : em = true := by rw [← HEM.out, decide_eq_true hv]
          have HKK := Lib.hid hK
          clear hK hv
          go_wp2
          go_roundw
          case rel => exact ⟨k + 1, by omega, by rw [HKK.out], by go_num, by rw [HKK.out]; exact Hown.out.alloc _, Hbw.out.alloc (by omega) _⟩
          case measure => simp [intOf]; omega
        · rw [if_neg hv] at hK
          obtain rfl : em = false := by rw [← HEM.out, decide_eq_false hv]
          clear hv
          cases d
          · rw [if_neg (fun h => by cases h)] at hK
            have HKK := Lib.hid hK
            clear hK
            go_wp2_with (at_builtin; refine wpList_append_own _ rfl _ _ 22 rfl W0.heap.size 45 i0 (.agg #[.int .u8 0, .string ⟨#[]⟩]) 2 24 Tryd.underlying22 HI.out HZ0.out HZ1.out HZ2.out rfl (by decide) _ _ _ rfl HownC.out ⟨wr.heap.size + 1, 0, none⟩ 1 1 [.int .u8 (sc.toNat : Int), .string (S val)] rfl rfl HCU.out (by intro u hu; simp at hu; rcases hu with rfl | rfl <;> rfl) (by unfold maxLen; omega) (by omega) (by simp; omega) ?_; intro v3 w3 hown3 hgrow3 hnil3)
            go_roundw
            case rel =>
              refine ⟨k + 1, by omega, by rw [HKK.out], by go_num, ?_, ((Hbw.out.alloc (by omega) _).alloc (by simp; omega) _).grown hgrow3 (by simp; omega) (fun j hj => (HownC.out.lt j hj).1)⟩
              rw [HKK.out]
              show w3.ownsRow _ _ _ _ (M ++ [(sc, val)]).length (cellsL (M ++ [(sc, val)]))
              rw [cellsL_snoc, List.length_append, HM.out]
              exact hown3
            case measure => simp [intOf]; omega
          · rw [if_pos rfl] at hK
            have HKK := Lib.hid hK
            clear hK
            go_wp2_with (at_builtin; refine wpList_append_own _ rfl _ _ 22 rfl W0.heap.size 45 i0 (.agg #[.int .u8 0, .string ⟨#[]⟩]) 2 24 Tryd.underlying22 HI.out HZ0.out HZ1.out HZ2.out rfl (by decide) _ _ _ rfl HownB.out ⟨wr.heap.size + 1, 0, none⟩ 1 1 [.int .u8 (sc.toNat : Int), .string (S sv)] rfl rfl HCT.out (by intro u hu; simp at hu; rcases hu with rfl | rfl <;> rfl) (by unfold maxLen; omega) (by omega) (by simp; omega) ?_; intro v3 w3 hown3 hgrow3 hnil3)
            go_roundw
            case rel =>
              refine ⟨k + 1, by omega, by rw [HKK.out], by go_num, ?_, ((Hbw.out.alloc (by omega) _).alloc (by simp; omega) _).grown hgrow3 (by simp; omega) (fun j hj => (HownB.out.lt j hj).1)⟩
              rw [HKK.out]
              show w3.ownsRow _ _ _ _ (M ++ [(sc, sv)]).length (cellsL (M ++ [(sc, sv)]))
              rw [cellsL_snoc, List.length_append, HM.out]
              exact hown3
            case measure => simp [intOf]; omega
    · obtain rfl : k = n := by omega
      have hll := HLe.out k
      have hRR := HR.out
      obtain ⟨⟨M, d⟩, hM⟩ : ∃ z, K k = z := ⟨_, rfl⟩
      rw [hM] at hown hll hRR ⊢
      have hown : wr.ownsRow W0.heap.size 45 2 u7 M.length (cellsL M) := hown
      have hll : M.length ≤ k := hll
      have hsz := hbw.size
      cases d
      · rw [if_neg (fun h => by cases h)] at hRR
        have HRR := Lib.hid hRR
        obtain ⟨m, hm⟩ : ∃ m, M.length = m := ⟨_, rfl⟩
        rw [hm] at hown hll
        have HM := Lib.hid hm
        have Hbw := Lib.hid hbw
        have hownB := hown.alloc (.cells #[.int .u8 (code.toNat : Int), .string (S val)] 45)
        have HownB := Lib.hid hownB
        have hct := cells_two wr (.int .u8 (code.toNat : Int)) (.string (S val)) 45
        have HCT := Lib.hid hct
        clear hown hbw hm hM hownB hct hRR
        go_wp2_with (at_builtin; refine wpList_append_own _ rfl _ _ 22 rfl W0.heap.size 45 i0 (.agg #[.int .u8 0, .string ⟨#[]⟩]) 2 24 Tryd.underlying22 HI.out HZ0.out HZ1.out HZ2.out rfl (by decide) _ _ _ rfl HownB.out ⟨wr.heap.size, 0, none⟩ 1 1 [.int .u8 (code.toNat : Int), .string (S val)] rfl rfl HCT.out (by intro u hu; simp at hu; rcases hu with rfl | rfl <;> rfl) (by unfold maxLen; omega) (by omega) (by simp; omega) ?_; intro v3 w3 hown3 hgrow3 hnil3; clear hnil3; obtain ⟨ao, cp, rfl⟩ := own_form hown3; (have hb3 := (Hbw.out.alloc hsz (.cells #[.int .u8 (code.toNat : Int), .string (S val)] 45)).grown hgrow3 (by simp; omega) (fun j hj => (HownB.out.lt j hj).1)); (have hown4 : w3.ownsRow W0.heap.size 45 2 (.slice ao (m + 1) cp) R.length (cellsL R) := (by rw [HRR.out]; show w3.ownsRow _ _ _ _ (M ++ [(code, val)]).length (cellsL (M ++ [(code, val)])); rw [cellsL_snoc, List.length_append, HM.out]; exact hown3)); (have hE := set_end hlt hlt1 b0 HF.out HRb.out hb3 hown4); obtain ⟨⟨q0, q1, q2, q3⟩, fF, ⟨r0, r1, r2, r3⟩, ⟨g0, g1, g2, g3⟩, hfin, hql, hbl⟩ := hE; clear hown3 hgrow3 hb3 hown4)
        (try simp only [Exit.inBlock, Exit.then])
        refine bodyPost_ret (results_cell_row rfl _ _ (w.heap.size + 1) _ _ _ _ rfl hfin.out Tryd.underlying24 rfl (by kernel_rfl)) rfl ?_
        exact ⟨_, rfl, hql.out, hbl.out⟩
      · rw [if_pos rfl] at hRR
        subst hRR
        obtain ⟨ao, cp, rfl⟩ := own_form hown
        have hE := set_end hlt hlt1 b0 HF.out HRb.out hbw hown
        obtain ⟨⟨q0, q1, q2, q3⟩, fF, ⟨r0, r1, r2, r3⟩, ⟨g0, g1, g2, g3⟩, hfin, hql, hbl⟩ := hE
        clear hown hbw hll hM
        go_wp2
        (try simp only [Exit.inBlock, Exit.then])
        refine bodyPost_ret (results_cell_row rfl _ _ (w.heap.size + 1) _ _ _ _ rfl hfin.out Tryd.underlying24 rfl (by kernel_rfl)) rfl ?_
        exact ⟨_, rfl, hql.out, hbl.out⟩
end Go.Proofs.YtjajihemcaihmaaDoor
