/- The laws' own: a record with one field. -/
import Derived.Test.YtjfdolmcecgdgaaDoorRJ09
import Derived.Test.YtjfdolmcecgdgaaDoorR07I
import Derived.Deep.CutBlock
namespace Go.Proofs.YtjfdolmcecgdgaaDoor
open Go.RowKit Go.PlainAid

def oneS (codes : List UInt8) : List Sub := codes.map fun c => (c, [120])
def oneF (tag codes : List UInt8) : Fld := ⟨tag, [32, 32], oneS codes, 0⟩
def oneR (tag codes : List UInt8) : Rec := ⟨1, 3, 1, [101, 110, 103], [oneF tag codes]⟩
theorem oneS_succ (codes : List UInt8) (k : Nat) (h : k < codes.length) : oneS (codes.take (k + 1)) = oneS (codes.take k) ++ [(codes.getD k 0, [120])] := by
  unfold oneS
  rw [List.take_succ_eq_append_getElem h, List.map_append, List.getD_eq_getElem?_getD, List.getElem?_eq_getElem h]
  rfl
theorem oneS_len (codes : List UInt8) : (oneS codes).length = codes.length := by simp [oneS]
/-- append of one subfield to a row of the call's own, within a region that draws. -/
theorem step_append_sub {ops : Array Oper} {o : Oper} {a : Act} {K : Act → World → Prop} {Q : Exit → Act → World → Prop} {E : Prop} (w : World) (hgd : o.guard = none) (s x : Operand)
    (ho : o.op = .call { callee := .builtin .append, args := #[s, x], argTypes := #[45, 45] })
    (B : Nat) (v : Value) (n : Nat) (L : List Sub) (hs : a.eval s = v) (hr : w.ownsRow B 57 2 v n (cellsL L)) (y z : Value) (hy : y.oneCell' = true) (hz1 : z.oneCell' = true) (ad : Addr) (hx : a.eval x = .slice (some ad) 1 1)
    (hM : ∀ j u, [y, z][j]? = some u → w.cell? (ad.add j) = some u)
    (hz : n + 1 ≤ 1000000) (hB : B ≤ w.heap.size)
    (h : ∀ g cap w', w'.ownsRow B 57 2 (.slice (some ⟨g, 0, none⟩) (n + 1) cap) (n + 1) (cellsL L ++ [y, z]) → w.grownBy w' v.ownBlock → K (a.put o.dst (.slice (some ⟨g, 0, none⟩) (n + 1) cap)) w') :
    if Region.wanted o (yielded ops a.tmps) = true then Oper.wp Tryd.prog o a w K Q else E := by
  obtain ⟨i0, hi, hz0, hz1', hz2⟩ := info_sub
  exact step_append_lies w hgd s x _ ho B _ i0 (.agg #[.int .u8 0, .string ⟨#[]⟩]) 2 24 Tryd.underlying45 hi hz0 hz1' hz2 rfl (by decide) v n (cellsL L) hs hr ad 1 1 [y, z] hx
      rfl hM (by intro u hu; simp at hu; rcases hu with rfl | rfl <;> assumption) (by decide) (by unfold maxLen; omega) (by omega) hB _ rfl fun g cap w' hown' hgrow _ _ => h g cap w' hown' hgrow
/-- What lies in memory while the subfields are gathered. -/
structure ON (w : World) (st : ByteArray) (codes : List UInt8) (k : Nat) (sv : Value) (wr : World) : Prop where
  fb : wr.heap[w.heap.size + 1]? = some (.cells #[.string st, .string ⟨#[32, 32]⟩, sv, .int .i64 0] 47 (0, 0))
  rb : wr.heap[w.heap.size]? = some (.cells #[.int .i64 0, .int .i64 0, .int .i64 0, .string ⟨#[]⟩, .slice none 0 0] 36 (0, 0))
  own : wr.ownsRow (w.heap.size + 1 + 1) 57 2 sv k (cellsL (oneS (codes.take k)))
  bel : Below w.heap.size w wr
theorem ON.cells {w : World} {st : ByteArray} {codes : List UInt8} {k : Nat} {sv : Value} {wr : World} (h : ON w st codes k sv wr) :
    (wr.cell? ⟨w.heap.size + 1, 0, none⟩ = some (.string st) ∧ wr.cell? ⟨w.heap.size + 1, 1, none⟩ = some (.string ⟨#[32, 32]⟩) ∧ wr.cell? ⟨w.heap.size + 1, 2, none⟩ = some sv ∧ wr.cell? ⟨w.heap.size + 1, 3, none⟩ = some (.int .i64 0)) ∧
    (wr.cell? ⟨w.heap.size, 0, none⟩ = some (.int .i64 0) ∧ wr.cell? ⟨w.heap.size, 1, none⟩ = some (.int .i64 0) ∧ wr.cell? ⟨w.heap.size, 2, none⟩ = some (.int .i64 0) ∧ wr.cell? ⟨w.heap.size, 3, none⟩ = some (.string ⟨#[]⟩) ∧ wr.cell? ⟨w.heap.size, 4, none⟩ = some (.slice none 0 0)) ∧
    (wr.frozen? ⟨w.heap.size, 0, none⟩ = false ∧ wr.frozen? ⟨w.heap.size, 1, none⟩ = false ∧ wr.frozen? ⟨w.heap.size, 2, none⟩ = false ∧ wr.frozen? ⟨w.heap.size, 3, none⟩ = false ∧ wr.frozen? ⟨w.heap.size, 4, none⟩ = false) := by
  have h1 := h.fb
  have h2 := h.rb
  refine ⟨⟨?_, ?_, ?_, ?_⟩, ⟨?_, ?_, ?_, ?_, ?_⟩, Lib.frozen_of_heap h2 0, Lib.frozen_of_heap h2 1, Lib.frozen_of_heap h2 2, Lib.frozen_of_heap h2 3, Lib.frozen_of_heap h2 4⟩ <;> first | (rw [Lib.cell_of_heap h1]; rfl) | (rw [Lib.cell_of_heap h2]; rfl)
/-- Behind an append, before the store. -/
theorem ON.app {w : World} {st : ByteArray} {codes : List UInt8} {k : Nat} {sv : Value} {wr w3 : World} (h : ON w st codes k sv wr) (o : Obj) (hg : (wr.alloc o).grownBy w3 sv.ownBlock) :
    w3.heap[w.heap.size + 1]? = some (.cells #[.string st, .string ⟨#[32, 32]⟩, sv, .int .i64 0] 47 (0, 0)) ∧ w3.heap[w.heap.size]? = some (.cells #[.int .i64 0, .int .i64 0, .int .i64 0, .string ⟨#[]⟩, .slice none 0 0] 36 (0, 0)) ∧ Below w.heap.size w w3 := by
  have ha : Below wr.heap.size wr (wr.alloc o) := (Below.refl _ _).alloc (Nat.le_refl _) _
  have hr := h.own.alloc o
  have l1 := (Array.getElem?_eq_some_iff.1 h.fb).1
  have l2 := (Array.getElem?_eq_some_iff.1 h.rb).1
  refine ⟨?_, ?_, ?_⟩
  · refine (hg.block _ (Nat.lt_of_lt_of_le l1 ha.size) fun e => ?_).trans ((ha.block _ l1).trans h.fb)
    have := World.ownsRow.lt hr _ e.symm
    omega
  · refine (hg.block _ (Nat.lt_of_lt_of_le l2 ha.size) fun e => ?_).trans ((ha.block _ l2).trans h.rb)
    have := World.ownsRow.lt hr _ e.symm
    omega
  · exact (h.bel.trans (ha.mono h.bel.size)).grown hg (Nat.le_trans h.bel.size ha.size) (fun j hj => by have := World.ownsRow.lt hr j hj; omega)
theorem ON.store {w : World} {st : ByteArray} {codes : List UInt8} {k : Nat} {sv v' : Value} {w3 : World} (hk : k < codes.length)
    (hf : w3.heap[w.heap.size + 1]? = some (.cells #[.string st, .string ⟨#[32, 32]⟩, sv, .int .i64 0] 47 (0, 0))) (hr : w3.heap[w.heap.size]? = some (.cells #[.int .i64 0, .int .i64 0, .int .i64 0, .string ⟨#[]⟩, .slice none 0 0] 36 (0, 0)))
    (hb : Below w.heap.size w w3) (ho : w3.ownsRow (w.heap.size + 1 + 1) 57 2 v' (k + 1) (cellsL (oneS (codes.take k)) ++ [.int .u8 ((codes.getD k 0).toNat : Int), .string ⟨#[120]⟩])) : ON w st codes (k + 1) v' (w3.setCell ⟨w.heap.size + 1, 2, none⟩ v') := by
  refine ⟨?_, ?_, ?_, hb.setCell (p := ⟨w.heap.size + 1, 2, none⟩) (Nat.le_succ _) v'⟩
  · simp [World.setCell, Array.getElem?_modify, hf]
  · exact (Below.heap_setCell _ _ _ _ (by show w.heap.size ≠ w.heap.size + 1; omega)).trans hr
  · rw [oneS_succ codes k hk, cellsL_snoc]
    exact own_setCell ho (by show w.heap.size + 1 < _; omega) _

set_option maxHeartbeats 16000000 in
set_option maxRecDepth 100000 in
theorem one_any (tag codes : List UInt8) (w : World) (hz : codes.length ≤ 1000) :
    Calls Tryd.prog 25 #[.string (S tag), .string (S codes)] w fun e w' => ∃ u, e = .returned (RV (oneR tag codes) u) ∧ FL u (oneR tag codes).fields w' ∧ Below w.heap.size w w' := by
  have hbt := get_bt (S codes)
  obtain ⟨n, hn⟩ : ∃ n, codes.length = n := ⟨_, rfl⟩
  have hsz : (S codes).size = n := by rw [S_size, hn]
  have HBS := Lib.hid (fun i => bt_S codes i)
  have HN := Lib.hid hn
  obtain ⟨W0, hW0⟩ : ∃ W0, (w.alloc (.cells #[.int .i64 0, .int .i64 0, .int .i64 0, .string ⟨#[]⟩, .slice none 0 0] 36)).alloc (.cells #[.string (S tag), .string ⟨#[32, 32]⟩, .slice none 0 0, .int .i64 0] 47) = W0 := ⟨_, rfl⟩
  have hON : ON w (S tag) codes 0 (.slice none 0 0) W0 := by
    refine ⟨?_, ?_, World.ownsRow_nil _ _ _ _, ?_⟩
    · rw [← hW0]
      have := heap_alloc_new (w.alloc (.cells #[.int .i64 0, .int .i64 0, .int .i64 0, .string ⟨#[]⟩, .slice none 0 0] 36)) (.cells #[.string (S tag), .string ⟨#[32, 32]⟩, .slice none 0 0, .int .i64 0] 47)
      simpa using this
    · rw [← hW0, Below.heap_alloc _ _ _ (by simp)]
      exact heap_alloc_new w _
    · rw [← hW0]
      exact ((Below.refl w.heap.size w).alloc (Nat.le_refl _) _).alloc (by simp) _
  have HON := Lib.hid hON
  have HW0 := Lib.hid hW0
  rw [hn] at hz
  obtain ⟨st, hst⟩ : ∃ s, S tag = s := ⟨_, rfl⟩
  have HSt := Lib.hid hst
  rw [hst] at HON HW0 ⊢
  clear hn hON hW0 hst
  generalize S codes = sc at *
  go_enter Tryd.func25, Tryd.ntmps25
  go_upto_region 2 with fail
  rw [HW0.out]
  clear HW0
  go_wp2
  go_loopw [6] (fun i wr => ∃ k : Nat, k ≤ n ∧ i = .int .i64 (k : Int) ∧ ∃ sv, ON w st codes k sv wr) (fun i _ => n - (intOf i).toNat)
  case atStart => exact ⟨0, Nat.zero_le _, rfl, _, HON.out⟩
  case round =>
    obtain ⟨k, hk, rfl, sv, hon⟩ := hrel
    obtain ⟨ao, cp, hs⟩ := own_form9 hon.own
    subst hs
    by_cases hkn : k < n
    · have i1 : (0 : Int) ≤ (k : Int) := by omega
      have i2 : (k : Int) < (n : Int) := by omega
      have hbk := HBS.out k
      have bD : Below wr.heap.size wr wr.drew := ⟨rfl, rfl, rfl, Nat.le_refl _, fun _ _ => rfl⟩
      have hond : ON w st codes k (.slice ao k cp) wr.drew := ⟨hon.fb, hon.rb, hon.own, hon.bel.trans (bD.mono hon.bel.size)⟩
      obtain ⟨⟨f0, f1, f2, f3⟩, ⟨r0, r1, r2, r3, r4⟩, -⟩ := hon.cells
      have f2a : (wr.alloc (.cells #[.int .u8 (bt sc k), .string ⟨#[120]⟩] 57)).cell? ⟨w.heap.size + 1, 2, none⟩ = some (.slice ao k cp) := (World.cell?_alloc_lt wr _ ⟨w.heap.size + 1, 2, none⟩ (show w.heap.size + 1 < wr.heap.size from (Array.getElem?_eq_some_iff.1 hon.fb).1)).trans f2
      have hrow := hond.own.alloc (.cells #[.int .u8 (bt sc k), .string ⟨#[120]⟩] 57)
      have hcl := cells_two wr.drew (.int .u8 (bt sc k)) (.string ⟨#[120]⟩) 57
      have hbs : w.heap.size + 1 + 1 ≤ (wr.drew.alloc (.cells #[.int .u8 (bt sc k), .string ⟨#[120]⟩] 57)).heap.size := by
        have h1 : w.heap.size + 1 < wr.drew.heap.size := (Array.getElem?_eq_some_iff.1 hond.fb).1
        exact Nat.le_trans h1 ((Below.refl wr.drew.heap.size wr.drew).alloc (Nat.le_refl _) _).size
      have HApp := Lib.hid (fun w3 hg => hond.app (w3 := w3) (.cells #[.int .u8 (bt sc k), .string ⟨#[120]⟩] 57) hg)
      have HSto := Lib.hid (fun w3 v' h1 h2 h3 h4 => ON.store (w := w) (st := st) (codes := codes) (k := k) (sv := .slice ao k cp) (v' := v') (w3 := w3) (by rw [HN.out]; exact hkn) h1 h2 h3 h4)
      rw [← hbk] at HSto
      clear hon hond bD hbk HON
      go_upto_region 5 with fail
      go_region_law (first
        | (refine step_append_sub _ (by rfl) _ _ (by rfl) (w.heap.size + 1 + 1) _ k (oneS (codes.take k)) (by rfl) hrow (.int .u8 (bt sc k)) (.string ⟨#[120]⟩) rfl rfl ⟨wr.heap.size, 0, none⟩ (by rfl) hcl (by omega) hbs ?_; intro g3 cap3 w3 hown3 hgrow3; have hA3 := HApp.out w3 hgrow3; have z2 : w3.cell? ⟨w.heap.size + 1, 2, none⟩ = some (.slice ao k cp) := (by rw [Lib.cell_of_heap hA3.1]; rfl); have y2 := Lib.frozen_of_heap hA3.1 2; have HA3 := Lib.hid hA3; have HO3 := Lib.hid hown3; clear hA3 hown3 hgrow3))
      all_goals
        have HO4 := Lib.hid (HSto.out w3 _ HA3.out.1 HA3.out.2.1 HA3.out.2.2 HO3.out)
        clear HA3 HO3 HSto HApp hrow hcl hbs f0 f1 f2 f3 f2a r0 r1 r2 r3 r4
        go_wp2
        go_roundw
        case rel => exact ⟨k + 1, by omega, by go_num, _, HO4.out⟩
        case measure => simp [intOf]; omega
    · obtain rfl : k = n := by omega
      obtain ⟨⟨f0, f1, f2, f3⟩, ⟨r0, r1, r2, r3, r4⟩, ⟨g0, g1, g2, g3, g4⟩⟩ := hon.cells
      have HOn := Lib.hid hon
      have hlt : w.heap.size < wr.heap.size := (Array.getElem?_eq_some_iff.1 hon.rb).1
      have hne : wr.heap.size ≠ w.heap.size := by omega
      have hne2 : w.heap.size ≠ wr.heap.size := by omega
      clear hon HON
      go_wp2
      obtain ⟨W5, hW5⟩ : ∃ W5, ((((wr.setCell ⟨w.heap.size, 0, none⟩ (.int .i64 1)).setCell ⟨w.heap.size, 1, none⟩ (.int .i64 3)).setCell ⟨w.heap.size, 2, none⟩ (.int .i64 1)).setCell ⟨w.heap.size, 3, none⟩ (.string ⟨#[101, 110, 103]⟩)).setCell ⟨w.heap.size, 4, none⟩ (.slice (some ⟨wr.heap.size, 0, none⟩) 1 1) = W5 := ⟨_, rfl⟩
      rw [hW5]
      have hrec : W5.heap[w.heap.size]? = some (.cells #[.int .i64 1, .int .i64 3, .int .i64 1, .string ⟨#[101, 110, 103]⟩, .slice (some ⟨wr.heap.size, 0, none⟩) 1 1] 36 (0, 0)) := by
        rw [← hW5]
        have h := HOn.out.rb
        simp [World.setCell, Array.getElem?_modify, h]
      have hsz5 : W5.heap.size = wr.heap.size := by rw [← hW5]; simp [World.setCell]
      have hb5 : Below w.heap.size w W5 := by
        rw [← hW5]
        exact ((((HOn.out.bel.setCell (p := ⟨w.heap.size, 0, none⟩) (Nat.le_refl _) _).setCell (p := ⟨w.heap.size, 1, none⟩) (Nat.le_refl _) _).setCell (p := ⟨w.heap.size, 2, none⟩) (Nat.le_refl _) _).setCell (p := ⟨w.heap.size, 3, none⟩) (Nat.le_refl _) _).setCell (p := ⟨w.heap.size, 4, none⟩) (Nat.le_refl _) _
      have ho5 : W5.ownsRow (w.heap.size + 1 + 1) 57 2 (.slice ao k cp) k (cellsL (oneS (codes.take k))) := by
        rw [← hW5]
        have hh : w.heap.size < w.heap.size + 1 + 1 := by omega
        exact own_setCell (own_setCell (own_setCell (own_setCell (own_setCell HOn.out.own (p := ⟨w.heap.size, 0, none⟩) hh _) (p := ⟨w.heap.size, 1, none⟩) hh _) (p := ⟨w.heap.size, 2, none⟩) hh _) (p := ⟨w.heap.size, 3, none⟩) hh _) (p := ⟨w.heap.size, 4, none⟩) hh _
      have hrec6 : (W5.alloc (.cells #[.string st, .string ⟨#[32, 32]⟩, .slice ao k cp, .int .i64 0] 47)).heap[w.heap.size]? = some (.cells #[.int .i64 1, .int .i64 3, .int .i64 1, .string ⟨#[101, 110, 103]⟩, .slice (some ⟨wr.heap.size, 0, none⟩) 1 1] 36 (0, 0)) := (Below.heap_alloc _ _ _ (by omega)).trans hrec
      refine bodyPost_ret (results_cell_row rfl _ _ w.heap.size _ _ _ _ rfl hrec6 Tryd.underlying36 rfl (by kernel_rfl)) rfl ?_
      refine ⟨.slice (some ⟨wr.heap.size, 0, none⟩) 1 1, rfl, ?_, hb5.alloc hb5.size _⟩
      have hbx := heap_alloc_new W5 (.cells #[.string st, .string ⟨#[32, 32]⟩, .slice ao k cp, .int .i64 0] 47)
      rw [hsz5] at hbx
      have hq : QL (.slice ao k cp) (oneS codes) (W5.alloc (.cells #[.string st, .string ⟨#[32, 32]⟩, .slice ao k cp, .int .i64 0] 47)) := by
        have h6 := ho5.alloc (.cells #[.string st, .string ⟨#[32, 32]⟩, .slice ao k cp, .int .i64 0] 47)
        have ht : codes.take k = codes := by rw [← HN.out]; exact List.take_length
        rw [ht] at h6
        have hk6 : k = (oneS codes).length := by rw [oneS_len, HN.out]
        refine QL.of_row (B := w.heap.size + 1 + 1) ?_
        rw [← hk6]
        exact h6
      refine ⟨some ⟨wr.heap.size, 0, none⟩, 1, rfl, Nat.le_refl _, by unfold maxLen; decide, (fun h => by cases h), fun i hi => ?_⟩
      obtain rfl : i = 0 := by
        have : (oneR tag codes).fields.length = 1 := rfl
        omega
      refine ⟨wr.heap.size, 0, .slice ao k cp, rfl, ?_, ?_, ?_, ?_, ?_, hq⟩
      · exact (Array.getElem?_eq_some_iff.1 hbx).1
      · rw [Lib.cell_of_heap hbx]
        show some (Value.string st) = some (.string (S tag))
        rw [HSt.out]
      · rw [Lib.cell_of_heap hbx]; rfl
      · rw [Lib.cell_of_heap hbx]; rfl
      · rw [Lib.cell_of_heap hbx]; rfl
end Go.Proofs.YtjfdolmcecgdgaaDoor
