/- Merged: R12H, PH12. -/
import Derived.Test.YtjfbbpppdlaapaaDoorQ27
import Derived.Laws.StructEq
import Derived.Test.YtjfbbpppdlaapaaDoorQ28
namespace Go.Proofs.YtjfbbpppdlaapaaDoor

section
open Go.RowKit Go.PlainAid
theorem nil12 (a : ByteArray) : a ++ ⟨#[]⟩ = a := by
  apply ByteArray.ext
  apply Array.toList_inj.1
  simp [ByteArray.data_append]
theorem eqIn_nm (p q : Nm) (w : World) : (Op.equalIn 10000 34 (NV p) (NV q)).run Tryd.prog w = .ok (decide (p = q)) w := by
  have uS := Tryd.underlying9
  have aS := Tryd.isAgg9
  have zS := Tryd.sizeOf9
  have hS : Tryd.prog.underlying 34 = some (.struct (Tryd.prog.fieldsOf 34)) := by kernel_rfl
  have hp : Tryd.prog.stoodInHeld 34 = false := by kernel_rfl
  unfold NV
  rw [show (10000 : Nat) = 9999 + 1 from rfl, run_equalIn_agg w 9999 34 _ _ hS hp]
  simp only [Program.fieldsOf, Tryd.underlying34]
  have h0 := S_eq12 p.1 q.1
  have h1 := S_eq12 p.2.1 q.2.1
  have h2 := S_eq12 p.2.2 q.2.2
  go_simp
  obtain ⟨p0, p1, p2⟩ := p
  obtain ⟨q0, q1, q2⟩ := q
  by_cases e0 : p0 = q0 <;> by_cases e1 : p1 = q1 <;> by_cases e2 : p2 = q2 <;> simp [e0, e1, e2]

set_option maxHeartbeats 16000000 in
set_option maxRecDepth 100000 in
theorem refText12_any (n : Nm) (h0 : n.1.length ≤ 30000) (h1 : n.2.1.length ≤ 30000) (h2 : n.2.2.length ≤ 30000) (s : List UInt8) (er : Int) (hr : textX12 n = (s, er)) (w : World) :
    Calls Tryd.prog 28 #[NV n] w fun e w' => e = .returned (.tuple #[.string (S s), .int .i64 er]) ∧ Below w.heap.size w w' := by
  obtain ⟨x, y, z⟩ := n
  obtain ⟨n, hn⟩ : ∃ n : Nm, n = (x, y, z) := ⟨_, rfl⟩
  change x.length ≤ 30000 at h0
  change y.length ≤ 30000 at h1
  change z.length ≤ 30000 at h2
  rw [← hn] at hr ⊢
  obtain ⟨Q, hQ⟩ : ∃ Q, (fun (e : Ending) (w' : World) => e = .returned (.tuple #[.string (S s), .int .i64 er]) ∧ Below w.heap.size w w') = Q := ⟨_, rfl⟩
  rw [hQ]
  obtain ⟨m, er', hm⟩ : ∃ m e, nameX (textN n) = (m, e) := ⟨_, _, rfl⟩
  obtain ⟨bb, hbb⟩ : ∃ b, decide (m = n) = b := ⟨_, rfl⟩
  have HQ : RowKit.Hid (∀ W, Below w.heap.size w W → (er' = 0 → bb = true → Q (.returned (.tuple #[.string (S (textN n)), .int .i64 0])) W) ∧ (er' ≠ 0 ∨ bb = false → Q (.returned (.tuple #[.string ⟨#[]⟩, .int .i64 3])) W)) := by
    intro W hW
    unfold textX12 at hr
    rw [hm] at hr
    refine ⟨fun he hb => ?_, fun hne => ?_⟩
    · rw [hb] at hbb
      rw [he, of_decide_eq_true hbb, if_pos rfl] at hr
      obtain ⟨rfl, rfl⟩ := Prod.mk.inj hr
      rw [← hQ]
      exact ⟨rfl, hW⟩
    · rw [if_neg (by
        intro h
        obtain ⟨h3, h4⟩ := Prod.mk.inj h
        rcases hne with h5 | h5
        · exact h5 h4
        · rw [h5] at hbb
          exact absurd h3 (of_decide_eq_false hbb))] at hr
      obtain ⟨rfl, rfl⟩ := Prod.mk.inj hr
      rw [← hQ]
      exact ⟨rfl, hW⟩
  have htl : (textN n).length ≤ 100000 := by
    rw [hn]
    unfold textN cb
    split <;> split <;> simp <;> omega
  obtain ⟨W1, hW1⟩ : ∃ W, w.alloc (.cells #[.string (S x), .string (S y), .string (S z)] 34) = W := ⟨_, rfl⟩
  have b1 : Below w.heap.size w W1 := by rw [← hW1]; exact (Below.refl _ _).alloc (Nat.le_refl _) _
  have hR1 : W1.heap[w.heap.size]? = some (.cells #[.string (S x), .string (S y), .string (S z)] 34 (0, 0)) := by rw [← hW1]; exact heap_alloc_new w _
  have hlt1 : w.heap.size < W1.heap.size := by rw [← hW1]; simp
  have HBox := Lib.hid (fun (W : World) (h : Below W1.heap.size W1 W) => (h.block w.heap.size hlt1).trans hR1)
  have HBel := Lib.hid (fun (W : World) (h : Below W1.heap.size W1 W) => b1.trans (h.mono b1.size))
  have HW1 := Lib.hid hW1
  have cN := Lib.hid (refName_any (textN n) htl m er' hm W1)
  have hEq := fun W => eqIn_nm m n W
  rw [hbb] at hEq
  rw [hn] at hEq ⊢
  unfold NV at hEq cN ⊢
  dsimp only at hEq cN ⊢
  obtain ⟨⟨p0, p1, p2⟩, q0, q1, q2⟩ := ncells hR1
  have ecb : S cb = ⟨#[44, 32]⟩ := rfl
  have ee : S [] = ⟨#[]⟩ := rfl
  have hz0 := S_size x
  have hz1 := S_size y
  have hz2 := S_size z
  have hf1 := S_facts y
  have hf2 := S_facts z
  have eT : textN (x, y, z) = (x ++ if y = [] then [] else cb ++ y) ++ if z = [] then [] else cb ++ z := rfl
  have e1 : y = [] → (S y).toList.isEmpty = true ∧ (S y).toList = [] := by
    rintro rfl
    rw [ee, ByteArray.toList_eq]
    exact ⟨rfl, rfl⟩
  have e2 : z = [] → (S z).toList.isEmpty = true ∧ (S z).toList = [] := by
    rintro rfl
    rw [ee, ByteArray.toList_eq]
    exact ⟨rfl, rfl⟩
  have hT : S (textN n) = (S x ++ if y = [] then ⟨#[]⟩ else ⟨#[44, 32]⟩ ++ S y) ++ if z = [] then ⟨#[]⟩ else ⟨#[44, 32]⟩ ++ S z := by
    rw [hn, eT, ← S_append, ← S_append, ← ecb]
    split <;> split <;> simp only [S_append, ee]
  have hTx := Lib.hid hT
  clear hW1 hR1 hlt1 b1 hr hQ hm hbb htl eT hn ecb hT
  go_enter Tryd.func28, Tryd.ntmps28
  go_upto_region 1 with fail
  rw [HW1.out]
  clear HW1
  go_upto_region 2 with fail
  by_cases hy : y = []
  · obtain ⟨f1, f2⟩ := e1 hy
    by_cases hz : z = []
    · obtain ⟨f3, f4⟩ := e2 hz
      have hT := hTx.out
      rw [if_pos hy, if_pos hz, nil12, nil12] at hT
      rw [hT] at cN HQ
      clear hT hTx e1 e2 hf1 hf2 hy hz ee
      go_upto_region 6 with fail
      go_wp2_with fail
      refine cN.out.mono ?_
      rintro e w2 ⟨rfl, hb2⟩
      have hx2 := HBox.out w2 hb2
      have hB2 := HBel.out w2 hb2
      clear cN HBel
      have hB3 := hB2.alloc hB2.size (.cells #[.string (S m.1), .string (S m.2.1), .string (S m.2.2)] 34)
      have hN3 : (w2.alloc (.cells #[.string (S m.1), .string (S m.2.1), .string (S m.2.2)] 34)).heap[w2.heap.size]? = some (.cells #[.string (S m.1), .string (S m.2.1), .string (S m.2.2)] 34 (0, 0)) := heap_alloc_new w2 _
      have hx3 : (w2.alloc (.cells #[.string (S m.1), .string (S m.2.1), .string (S m.2.2)] 34)).heap[w.heap.size]? = some (.cells #[.string (S x), .string (S y), .string (S z)] 34 (0, 0)) := HBox.out _ (hb2.alloc hb2.size _)
      go_upto_region 7 with fail
      obtain ⟨w3, hw3⟩ : ∃ W, w2.alloc (.cells #[.string (S m.1), .string (S m.2.1), .string (S m.2.2)] 34) = W := ⟨_, rfl⟩
      rw [hw3] at hB3 hN3 hx3 ⊢
      obtain ⟨bn, hbn⟩ : ∃ b, w2.heap.size = b := ⟨_, rfl⟩
      rw [hbn] at hN3 ⊢
      clear hw3 hbn hb2 hx2 hB2 HBox
      obtain ⟨⟨x0, x1, x2⟩, v0, v1, v2⟩ := ncells hN3
      obtain ⟨⟨y0, y1, y2⟩, z0, z1, z2⟩ := ncells hx3
      have hgood := Lib.hid (HQ.out w3 hB3)
      clear HQ hN3 hx3 hB3
      by_cases he : er' = 0
      · subst he
        cases bb with
        | true =>
          go_wp2_with fail
          exact hgood.out.1 (by simp) (by simp)
        | false =>
          go_wp2_with fail
          exact hgood.out.2 (.inr (by simp))
      · go_wp2_with fail
        exact hgood.out.2 (.inl (by simpa using he))
    · obtain ⟨f3, f4⟩ := hf2 hz
      have hT := hTx.out
      rw [if_pos hy, if_neg hz, nil12] at hT
      rw [hT] at cN HQ
      clear hT hTx e1 e2 hf1 hf2 hy hz ee
      go_upto_region 6 with fail
      go_wp2_with fail
      refine cN.out.mono ?_
      rintro e w2 ⟨rfl, hb2⟩
      have hx2 := HBox.out w2 hb2
      have hB2 := HBel.out w2 hb2
      clear cN HBel
      have hB3 := hB2.alloc hB2.size (.cells #[.string (S m.1), .string (S m.2.1), .string (S m.2.2)] 34)
      have hN3 : (w2.alloc (.cells #[.string (S m.1), .string (S m.2.1), .string (S m.2.2)] 34)).heap[w2.heap.size]? = some (.cells #[.string (S m.1), .string (S m.2.1), .string (S m.2.2)] 34 (0, 0)) := heap_alloc_new w2 _
      have hx3 : (w2.alloc (.cells #[.string (S m.1), .string (S m.2.1), .string (S m.2.2)] 34)).heap[w.heap.size]? = some (.cells #[.string (S x), .string (S y), .string (S z)] 34 (0, 0)) := HBox.out _ (hb2.alloc hb2.size _)
      go_upto_region 7 with fail
      obtain ⟨w3, hw3⟩ : ∃ W, w2.alloc (.cells #[.string (S m.1), .string (S m.2.1), .string (S m.2.2)] 34) = W := ⟨_, rfl⟩
      rw [hw3] at hB3 hN3 hx3 ⊢
      obtain ⟨bn, hbn⟩ : ∃ b, w2.heap.size = b := ⟨_, rfl⟩
      rw [hbn] at hN3 ⊢
      clear hw3 hbn hb2 hx2 hB2 HBox
      obtain ⟨⟨x0, x1, x2⟩, v0, v1, v2⟩ := ncells hN3
      obtain ⟨⟨y0, y1, y2⟩, z0, z1, z2⟩ := ncells hx3
      have hgood := Lib.hid (HQ.out w3 hB3)
      clear HQ hN3 hx3 hB3
      by_cases he : er' = 0
      · subst he
        cases bb with
        | true =>
          go_wp2_with fail
          exact hgood.out.1 (by simp) (by simp)
        | false =>
          go_wp2_with fail
          exact hgood.out.2 (.inr (by simp))
      · go_wp2_with fail
        exact hgood.out.2 (.inl (by simpa using he))
  · obtain ⟨f1, f2⟩ := hf1 hy
    by_cases hz : z = []
    · obtain ⟨f3, f4⟩ := e2 hz
      have hT := hTx.out
      rw [if_neg hy, if_pos hz, nil12] at hT
      rw [hT] at cN HQ
      clear hT hTx e1 e2 hf1 hf2 hy hz ee
      go_upto_region 6 with fail
      go_wp2_with fail
      refine cN.out.mono ?_
      rintro e w2 ⟨rfl, hb2⟩
      have hx2 := HBox.out w2 hb2
      have hB2 := HBel.out w2 hb2
      clear cN HBel
      have hB3 := hB2.alloc hB2.size (.cells #[.string (S m.1), .string (S m.2.1), .string (S m.2.2)] 34)
      have hN3 : (w2.alloc (.cells #[.string (S m.1), .string (S m.2.1), .string (S m.2.2)] 34)).heap[w2.heap.size]? = some (.cells #[.string (S m.1), .string (S m.2.1), .string (S m.2.2)] 34 (0, 0)) := heap_alloc_new w2 _
      have hx3 : (w2.alloc (.cells #[.string (S m.1), .string (S m.2.1), .string (S m.2.2)] 34)).heap[w.heap.size]? = some (.cells #[.string (S x), .string (S y), .string (S z)] 34 (0, 0)) := HBox.out _ (hb2.alloc hb2.size _)
      go_upto_region 7 with fail
      obtain ⟨w3, hw3⟩ : ∃ W, w2.alloc (.cells #[.string (S m.1), .string (S m.2.1), .string (S m.2.2)] 34) = W := ⟨_, rfl⟩
      rw [hw3] at hB3 hN3 hx3 ⊢
      obtain ⟨bn, hbn⟩ : ∃ b, w2.heap.size = b := ⟨_, rfl⟩
      rw [hbn] at hN3 ⊢
      clear hw3 hbn hb2 hx2 hB2 HBox
      obtain ⟨⟨x0, x1, x2⟩, v0, v1, v2⟩ := ncells hN3
      obtain ⟨⟨y0, y1, y2⟩, z0, z1, z2⟩ := ncells hx3
      have hgood := Lib.hid (HQ.out w3 hB3)
      clear HQ hN3 hx3 hB3
      by_cases he : er' = 0
      · subst he
        cases bb with
        | true =>
          go_wp2_with fail
          exact hgood.out.1 (by simp) (by simp)
        | false =>
          go_wp2_with fail
          exact hgood.out.2 (.inr (by simp))
      · go_wp2_with fail
        exact hgood.out.2 (.inl (by simpa using he))
    · obtain ⟨f3, f4⟩ := hf2 hz
      have hT := hTx.out
      rw [if_neg hy, if_neg hz] at hT
      rw [hT] at cN HQ
      clear hT hTx e1 e2 hf1 hf2 hy hz ee
      go_upto_region 6 with fail
      go_wp2_with fail
      refine cN.out.mono ?_
      rintro e w2 ⟨rfl, hb2⟩
      have hx2 := HBox.out w2 hb2
      have hB2 := HBel.out w2 hb2
      clear cN HBel
      have hB3 := hB2.alloc hB2.size (.cells #[.string (S m.1), .string (S m.2.1), .string (S m.2.2)] 34)
      have hN3 : (w2.alloc (.cells #[.string (S m.1), .string (S m.2.1), .string (S m.2.2)] 34)).heap[w2.heap.size]? = some (.cells #[.string (S m.1), .string (S m.2.1), .string (S m.2.2)] 34 (0, 0)) := heap_alloc_new w2 _
      have hx3 : (w2.alloc (.cells #[.string (S m.1), .string (S m.2.1), .string (S m.2.2)] 34)).heap[w.heap.size]? = some (.cells #[.string (S x), .string (S y), .string (S z)] 34 (0, 0)) := HBox.out _ (hb2.alloc hb2.size _)
      go_upto_region 7 with fail
      obtain ⟨w3, hw3⟩ : ∃ W, w2.alloc (.cells #[.string (S m.1), .string (S m.2.1), .string (S m.2.2)] 34) = W := ⟨_, rfl⟩
      rw [hw3] at hB3 hN3 hx3 ⊢
      obtain ⟨bn, hbn⟩ : ∃ b, w2.heap.size = b := ⟨_, rfl⟩
      rw [hbn] at hN3 ⊢
      clear hw3 hbn hb2 hx2 hB2 HBox
      obtain ⟨⟨x0, x1, x2⟩, v0, v1, v2⟩ := ncells hN3
      obtain ⟨⟨y0, y1, y2⟩, z0, z1, z2⟩ := ncells hx3
      have hgood := Lib.hid (HQ.out w3 hB3)
      clear HQ hN3 hx3 hB3
      by_cases he : er' = 0
      · subst he
        cases bb with
        | true =>
          go_wp2_with fail
          exact hgood.out.1 (by simp) (by simp)
        | false =>
          go_wp2_with fail
          exact hgood.out.2 (.inr (by simp))
      · go_wp2_with fail
        exact hgood.out.2 (.inl (by simpa using he))
end

section
open Go.RowKit Go.PlainAid
set_option maxHeartbeats 16000000 in
set_option maxRecDepth 100000 in
theorem pText12_any (n : Nm) (h0 : n.1.length ≤ 10000) (h1 : n.2.1.length ≤ 10000) (h2 : n.2.2.length ≤ 10000) (s : List UInt8) (er : Int) (hr : textX12 n = (s, er)) (w : World) (_hE : Env w) :
    Calls Tryd.prog 27 #[NV n] w fun e w' => e = .returned (.tuple #[.string (S s), .int .i64 er]) ∧ Below w.heap.size w w' := by
  obtain ⟨x, y, z⟩ := n
  obtain ⟨n, hn⟩ : ∃ n : Nm, n = (x, y, z) := ⟨_, rfl⟩
  change x.length ≤ 10000 at h0
  change y.length ≤ 10000 at h1
  change z.length ≤ 10000 at h2
  rw [← hn] at hr ⊢
  obtain ⟨Q, hQ⟩ : ∃ Q, (fun (e : Ending) (w' : World) => e = .returned (.tuple #[.string (S s), .int .i64 er]) ∧ Below w.heap.size w w') = Q := ⟨_, rfl⟩
  rw [hQ]
  obtain ⟨m, er', hm⟩ : ∃ m e, nameX (textN n) = (m, e) := ⟨_, _, rfl⟩
  obtain ⟨bb, hbb⟩ : ∃ b, decide (m = n) = b := ⟨_, rfl⟩
  have HQ : RowKit.Hid (∀ W, Below w.heap.size w W → (er' = 0 → bb = true → Q (.returned (.tuple #[.string (S (textN n)), .int .i64 0])) W) ∧ (er' ≠ 0 ∨ bb = false → Q (.returned (.tuple #[.string ⟨#[]⟩, .int .i64 3])) W)) := by
    intro W hW
    unfold textX12 at hr
    rw [hm] at hr
    refine ⟨fun he hb => ?_, fun hne => ?_⟩
    · rw [hb] at hbb
      rw [he, of_decide_eq_true hbb, if_pos rfl] at hr
      obtain ⟨rfl, rfl⟩ := Prod.mk.inj hr
      rw [← hQ]
      exact ⟨rfl, hW⟩
    · rw [if_neg (by
        intro h
        obtain ⟨h3, h4⟩ := Prod.mk.inj h
        rcases hne with h5 | h5
        · exact h5 h4
        · rw [h5] at hbb
          exact absurd h3 (of_decide_eq_false hbb))] at hr
      obtain ⟨rfl, rfl⟩ := Prod.mk.inj hr
      rw [← hQ]
      exact ⟨rfl, hW⟩
  have htl : (textN n).length ≤ 100000 := by
    rw [hn]
    unfold textN cb
    split <;> split <;> simp <;> omega
  obtain ⟨W1, hW1⟩ : ∃ W, w.alloc (.cells #[.string (S x), .string (S y), .string (S z)] 34) = W := ⟨_, rfl⟩
  have b1 : Below w.heap.size w W1 := by rw [← hW1]; exact (Below.refl _ _).alloc (Nat.le_refl _) _
  have hR1 : W1.heap[w.heap.size]? = some (.cells #[.string (S x), .string (S y), .string (S z)] 34 (0, 0)) := by rw [← hW1]; exact heap_alloc_new w _
  have hlt1 : w.heap.size < W1.heap.size := by rw [← hW1]; simp
  have HBox := Lib.hid (fun (W : World) (h : Below W1.heap.size W1 W) => (h.block w.heap.size hlt1).trans hR1)
  have HBel := Lib.hid (fun (W : World) (h : Below W1.heap.size W1 W) => b1.trans (h.mono b1.size))
  have HW1 := Lib.hid hW1
  have cN := Lib.hid (name_any (textN n) htl m er' hm W1 (_hE.after b1))
  have hEq := fun W => eqIn_nm m n W
  rw [hbb] at hEq
  rw [hn] at hEq ⊢
  unfold NV at hEq cN ⊢
  dsimp only at hEq cN ⊢
  obtain ⟨⟨p0, p1, p2⟩, q0, q1, q2⟩ := ncells hR1
  have ecb : S cb = ⟨#[44, 32]⟩ := rfl
  have ee : S [] = ⟨#[]⟩ := rfl
  have hz0 := S_size x
  have hz1 := S_size y
  have hz2 := S_size z
  have hf1 := S_facts y
  have hf2 := S_facts z
  have eT : textN (x, y, z) = (x ++ if y = [] then [] else cb ++ y) ++ if z = [] then [] else cb ++ z := rfl
  have e1 : y = [] → (S y).toList.isEmpty = true ∧ (S y).toList = [] := by
    rintro rfl
    rw [ee, ByteArray.toList_eq]
    exact ⟨rfl, rfl⟩
  have e2 : z = [] → (S z).toList.isEmpty = true ∧ (S z).toList = [] := by
    rintro rfl
    rw [ee, ByteArray.toList_eq]
    exact ⟨rfl, rfl⟩
  have hT : S (textN n) = (S x ++ if y = [] then ⟨#[]⟩ else ⟨#[44, 32]⟩ ++ S y) ++ if z = [] then ⟨#[]⟩ else ⟨#[44, 32]⟩ ++ S z := by
    rw [hn, eT, ← S_append, ← S_append, ← ecb]
    split <;> split <;> simp only [S_append, ee]
  have hTx := Lib.hid hT
  clear hW1 hR1 hlt1 b1 _hE hr hQ hm hbb htl eT hn ecb hT
  go_enter Tryd.func27, Tryd.ntmps27
  go_upto_region 1 with fail
  rw [HW1.out]
  clear HW1
  go_upto_region 2 with fail
  by_cases hy : y = []
  · obtain ⟨f1, f2⟩ := e1 hy
    by_cases hz : z = []
    · obtain ⟨f3, f4⟩ := e2 hz
      have hT := hTx.out
      rw [if_pos hy, if_pos hz, nil12, nil12] at hT
      rw [hT] at cN HQ
      clear hT hTx e1 e2 hf1 hf2 hy hz ee
      go_upto_region 6 with fail
      go_wp2_with fail
      refine cN.out.mono ?_
      rintro e w2 ⟨rfl, hb2⟩
      have hx2 := HBox.out w2 hb2
      have hB2 := HBel.out w2 hb2
      clear cN HBel
      have hB3 := hB2.alloc hB2.size (.cells #[.string (S m.1), .string (S m.2.1), .string (S m.2.2)] 34)
      have hN3 : (w2.alloc (.cells #[.string (S m.1), .string (S m.2.1), .string (S m.2.2)] 34)).heap[w2.heap.size]? = some (.cells #[.string (S m.1), .string (S m.2.1), .string (S m.2.2)] 34 (0, 0)) := heap_alloc_new w2 _
      have hx3 : (w2.alloc (.cells #[.string (S m.1), .string (S m.2.1), .string (S m.2.2)] 34)).heap[w.heap.size]? = some (.cells #[.string (S x), .string (S y), .string (S z)] 34 (0, 0)) := HBox.out _ (hb2.alloc hb2.size _)
      go_upto_region 7 with fail
      obtain ⟨w3, hw3⟩ : ∃ W, w2.alloc (.cells #[.string (S m.1), .string (S m.2.1), .string (S m.2.2)] 34) = W := ⟨_, rfl⟩
      rw [hw3] at hB3 hN3 hx3 ⊢
      obtain ⟨bn, hbn⟩ : ∃ b, w2.heap.size = b := ⟨_, rfl⟩
      rw [hbn] at hN3 ⊢
      clear hw3 hbn hb2 hx2 hB2 HBox
      obtain ⟨⟨x0, x1, x2⟩, v0, v1, v2⟩ := ncells hN3
      obtain ⟨⟨y0, y1, y2⟩, z0, z1, z2⟩ := ncells hx3
      have hgood := Lib.hid (HQ.out w3 hB3)
      clear HQ hN3 hx3 hB3
      by_cases he : er' = 0
      · subst he
        cases bb with
        | true =>
          go_wp2_with fail
          exact hgood.out.1 (by simp) (by simp)
        | false =>
          go_wp2_with fail
          exact hgood.out.2 (.inr (by simp))
      · go_wp2_with fail
        exact hgood.out.2 (.inl (by simpa using he))
    · obtain ⟨f3, f4⟩ := hf2 hz
      have hT := hTx.out
      rw [if_pos hy, if_neg hz, nil12] at hT
      rw [hT] at cN HQ
      clear hT hTx e1 e2 hf1 hf2 hy hz ee
      go_upto_region 6 with fail
      go_wp2_with fail
      refine cN.out.mono ?_
      rintro e w2 ⟨rfl, hb2⟩
      have hx2 := HBox.out w2 hb2
      have hB2 := HBel.out w2 hb2
      clear cN HBel
      have hB3 := hB2.alloc hB2.size (.cells #[.string (S m.1), .string (S m.2.1), .string (S m.2.2)] 34)
      have hN3 : (w2.alloc (.cells #[.string (S m.1), .string (S m.2.1), .string (S m.2.2)] 34)).heap[w2.heap.size]? = some (.cells #[.string (S m.1), .string (S m.2.1), .string (S m.2.2)] 34 (0, 0)) := heap_alloc_new w2 _
      have hx3 : (w2.alloc (.cells #[.string (S m.1), .string (S m.2.1), .string (S m.2.2)] 34)).heap[w.heap.size]? = some (.cells #[.string (S x), .string (S y), .string (S z)] 34 (0, 0)) := HBox.out _ (hb2.alloc hb2.size _)
      go_upto_region 7 with fail
      obtain ⟨w3, hw3⟩ : ∃ W, w2.alloc (.cells #[.string (S m.1), .string (S m.2.1), .string (S m.2.2)] 34) = W := ⟨_, rfl⟩
      rw [hw3] at hB3 hN3 hx3 ⊢
      obtain ⟨bn, hbn⟩ : ∃ b, w2.heap.size = b := ⟨_, rfl⟩
      rw [hbn] at hN3 ⊢
      clear hw3 hbn hb2 hx2 hB2 HBox
      obtain ⟨⟨x0, x1, x2⟩, v0, v1, v2⟩ := ncells hN3
      obtain ⟨⟨y0, y1, y2⟩, z0, z1, z2⟩ := ncells hx3
      have hgood := Lib.hid (HQ.out w3 hB3)
      clear HQ hN3 hx3 hB3
      by_cases he : er' = 0
      · subst he
        cases bb with
        | true =>
          go_wp2_with fail
          exact hgood.out.1 (by simp) (by simp)
        | false =>
          go_wp2_with fail
          exact hgood.out.2 (.inr (by simp))
      · go_wp2_with fail
        exact hgood.out.2 (.inl (by simpa using he))
  · obtain ⟨f1, f2⟩ := hf1 hy
    by_cases hz : z = []
    · obtain ⟨f3, f4⟩ := e2 hz
      have hT := hTx.out
      rw [if_neg hy, if_pos hz, nil12] at hT
      rw [hT] at cN HQ
      clear hT hTx e1 e2 hf1 hf2 hy hz ee
      go_upto_region 6 with fail
      go_wp2_with fail
      refine cN.out.mono ?_
      rintro e w2 ⟨rfl, hb2⟩
      have hx2 := HBox.out w2 hb2
      have hB2 := HBel.out w2 hb2
      clear cN HBel
      have hB3 := hB2.alloc hB2.size (.cells #[.string (S m.1), .string (S m.2.1), .string (S m.2.2)] 34)
      have hN3 : (w2.alloc (.cells #[.string (S m.1), .string (S m.2.1), .string (S m.2.2)] 34)).heap[w2.heap.size]? = some (.cells #[.string (S m.1), .string (S m.2.1), .string (S m.2.2)] 34 (0, 0)) := heap_alloc_new w2 _
      have hx3 : (w2.alloc (.cells #[.string (S m.1), .string (S m.2.1), .string (S m.2.2)] 34)).heap[w.heap.size]? = some (.cells #[.string (S x), .string (S y), .string (S z)] 34 (0, 0)) := HBox.out _ (hb2.alloc hb2.size _)
      go_upto_region 7 with fail
      obtain ⟨w3, hw3⟩ : ∃ W, w2.alloc (.cells #[.string (S m.1), .string (S m.2.1), .string (S m.2.2)] 34) = W := ⟨_, rfl⟩
      rw [hw3] at hB3 hN3 hx3 ⊢
      obtain ⟨bn, hbn⟩ : ∃ b, w2.heap.size = b := ⟨_, rfl⟩
      rw [hbn] at hN3 ⊢
      clear hw3 hbn hb2 hx2 hB2 HBox
      obtain ⟨⟨x0, x1, x2⟩, v0, v1, v2⟩ := ncells hN3
      obtain ⟨⟨y0, y1, y2⟩, z0, z1, z2⟩ := ncells hx3
      have hgood := Lib.hid (HQ.out w3 hB3)
      clear HQ hN3 hx3 hB3
      by_cases he : er' = 0
      · subst he
        cases bb with
        | true =>
          go_wp2_with fail
          exact hgood.out.1 (by simp) (by simp)
        | false =>
          go_wp2_with fail
          exact hgood.out.2 (.inr (by simp))
      · go_wp2_with fail
        exact hgood.out.2 (.inl (by simpa using he))
    · obtain ⟨f3, f4⟩ := hf2 hz
      have hT := hTx.out
      rw [if_neg hy, if_neg hz] at hT
      rw [hT] at cN HQ
      clear hT hTx e1 e2 hf1 hf2 hy hz ee
      go_upto_region 6 with fail
      go_wp2_with fail
      refine cN.out.mono ?_
      rintro e w2 ⟨rfl, hb2⟩
      have hx2 := HBox.out w2 hb2
      have hB2 := HBel.out w2 hb2
      clear cN HBel
      have hB3 := hB2.alloc hB2.size (.cells #[.string (S m.1), .string (S m.2.1), .string (S m.2.2)] 34)
      have hN3 : (w2.alloc (.cells #[.string (S m.1), .string (S m.2.1), .string (S m.2.2)] 34)).heap[w2.heap.size]? = some (.cells #[.string (S m.1), .string (S m.2.1), .string (S m.2.2)] 34 (0, 0)) := heap_alloc_new w2 _
      have hx3 : (w2.alloc (.cells #[.string (S m.1), .string (S m.2.1), .string (S m.2.2)] 34)).heap[w.heap.size]? = some (.cells #[.string (S x), .string (S y), .string (S z)] 34 (0, 0)) := HBox.out _ (hb2.alloc hb2.size _)
      go_upto_region 7 with fail
      obtain ⟨w3, hw3⟩ : ∃ W, w2.alloc (.cells #[.string (S m.1), .string (S m.2.1), .string (S m.2.2)] 34) = W := ⟨_, rfl⟩
      rw [hw3] at hB3 hN3 hx3 ⊢
      obtain ⟨bn, hbn⟩ : ∃ b, w2.heap.size = b := ⟨_, rfl⟩
      rw [hbn] at hN3 ⊢
      clear hw3 hbn hb2 hx2 hB2 HBox
      obtain ⟨⟨x0, x1, x2⟩, v0, v1, v2⟩ := ncells hN3
      obtain ⟨⟨y0, y1, y2⟩, z0, z1, z2⟩ := ncells hx3
      have hgood := Lib.hid (HQ.out w3 hB3)
      clear HQ hN3 hx3 hB3
      by_cases he : er' = 0
      · subst he
        cases bb with
        | true =>
          go_wp2_with fail
          exact hgood.out.1 (by simp) (by simp)
        | false =>
          go_wp2_with fail
          exact hgood.out.2 (.inr (by simp))
      · go_wp2_with fail
        exact hgood.out.2 (.inl (by simpa using he))
end

end Go.Proofs.YtjfbbpppdlaapaaDoor
