/- Merged: KI14, KJ14, Plain14E. -/
import Derived.Test.YthjdopnoophigaaGreatDoorQ33
import Derived.Test.YthjdopnoophigaaGreatDoorQ11
import Derived.Lib.SlicesCompact
namespace Go.Proofs.YthjdopnoophigaaGreatDoor

section
open Go.RowKit Go.PlainAid
set_option maxHeartbeats 8000000 in
set_option maxRecDepth 100000 in
theorem rclone_any (V : World) (L : List Rec) (u : Value) (w : World) (hV : Below V.heap.size V w) (hu : RL u L V) (hs : L.length ≤ 100000) :
    Calls Tryz.prog 45 #[u] w fun e w' => ∃ v', e = .returned v' ∧ RR V w.heap.size v' L w' ∧ Below w.heap.size w w' := by
  have q22 : ∀ (w : World) (a : Option Addr) (n c n' c' : Nat), (binOp .eql 34 (.slice a n c) (.slice none n' c')).run Tryz.prog w = .ok (.bool a.isNone) w := fun w a n c n' c' => Lib.run_eql_slice_nil w _ _ a n c n' c' Tryz.underlying34
  obtain ⟨i0, hi, hz0, hz1, hz2⟩ := info_rec
  obtain ⟨a, cap, us, rfl, hcap, hmax, hn, hl, hq, hx⟩ := hu.vals
  cases a with
  | none =>
    obtain rfl := hn rfl
    have h0 : L = [] := List.eq_nil_of_length_eq_zero (by omega)
    subst h0
    clear hu hx hq
    go_enter Tryz.func45, Tryz.ntmps45
    go_wp2
    go_ret
    exact ⟨_, rfl, RR.nil _ _ _, Below.refl _ _⟩
  | some ad =>
    have hc : ∀ (o : Obj) j x, (cellsR L us)[j]? = some x → (w.alloc o).cell? (ad.add j) = some x := by
      intro o j x hj
      by_cases h0 : L = []
      · subst h0
        cases us with
        | nil => simp [cellsR] at hj
        | cons _ _ => simp at hl
      · obtain ⟨g, o', s⟩ := ad
        obtain ⟨rfl, hg, hcell⟩ := hx g o' s rfl h0
        have hadd : (⟨g, o', none⟩ : Addr).add j = ⟨g, o' + j, none⟩ := by unfold Addr.add; split <;> simp_all
        rw [hadd]
        exact Lib.cell?_alloc_some _ ((hV.cell (p := ⟨g, o' + j, none⟩) hg).trans (hcell j x hj))
    have HC := Lib.hid hc
    have h1 := Lib.hid (cellsR_one L us (by
      intro u hu
      obtain ⟨j, hj, rfl⟩ := List.getElem_of_mem hu
      have := hq j (by omega)
      rw [List.getD_eq_getElem?_getD, List.getElem?_eq_getElem hj] at this
      exact this.one))
    have hlc := Lib.hid (cellsR_length L us hl)
    have HI := Lib.hid hi
    have HZ0 := Lib.hid hz0
    have HZ1 := Lib.hid hz1
    have HZ2 := Lib.hid hz2
    have HEnd : RowKit.Hid (∀ v' W, W.ownsRow w.heap.size 33 5 v' L.length (cellsR L us) → RR V w.heap.size v' L W) := fun v' W h => ⟨us, hl, h, hq⟩
    unfold maxLen at hmax
    clear hu hc hi hz0 hz1 hz2 hq hl hx
    obtain ⟨n, hnn⟩ : ∃ n, L.length = n := ⟨_, rfl⟩
    rw [hnn] at hcap hs hlc HEnd ⊢
    clear hnn
    go_enter Tryz.func45, Tryz.ntmps45
    go_wp2_with (at_builtin; refine wpList_append_own _ rfl _ _ 34 rfl w.heap.size 33 i0 (.agg #[.int .i64 0, .int .i64 0, .int .i64 0, .string ⟨#[]⟩, .slice none 0 0]) 5 64 Tryz.underlying34 HI.out HZ0.out HZ1.out HZ2.out rfl (by decide) _ _ _ rfl (World.ownsRow_made w #[] 0 (Nat.le_refl _) (Nat.zero_le _) (by simp)) ad n cap (cellsR L us) rfl ?qc1 ?qc2 ?qc3 ?qc4 ?qc5 ?qc6 ?_)
    case qc1 => exact hlc.out
    case qc2 => exact HC.out _
    case qc3 => exact h1.out
    case qc4 => rw [Nat.zero_add]; unfold maxLen; omega
    case qc5 => rw [Nat.zero_add]; omega
    case qc6 => simp
    intro v' w1 hown hgrow hnil
    have hb := ((Below.refl _ w).alloc (Nat.le_refl _) (.cells #[] 33)).grown hgrow (by simp) (by intro k hk; simp [Value.ownBlock] at hk; omega)
    obtain ⟨ao, cp, rfl⟩ := own_form hown
    go_wp2
    go_ret
    exact ⟨_, rfl, HEnd.out _ _ (by simpa using hown), hb⟩

def mixR (c : Rec → Rec) (k : Nat) (L : List Rec) : List Rec := (L.take k).map c ++ L.drop k
theorem mixR_len (c : Rec → Rec) (k : Nat) (L : List Rec) : (mixR c k L).length = L.length := by
  unfold mixR
  rw [List.length_append, List.length_map, ← List.length_append, List.take_append_drop]
theorem mixR_zero (c : Rec → Rec) (L : List Rec) : mixR c 0 L = L := by simp [mixR]
theorem mixR_all (c : Rec → Rec) (L : List Rec) : mixR c L.length L = L.map c := by simp [mixR]
theorem mixR_at (c : Rec → Rec) (k : Nat) (L : List Rec) (i : Nat) (hi : i < L.length) : (mixR c k L).getD i rec0 = if i < k then c (L.getD i rec0) else L.getD i rec0 := by
  unfold mixR
  rw [List.getD_eq_getElem?_getD, List.getD_eq_getElem?_getD]
  by_cases h : i < k
  · rw [if_pos h, List.getElem?_append_left (by rw [List.length_map, List.length_take]; omega), List.getElem?_map, List.getElem?_take_of_lt h, List.getElem?_eq_getElem hi]
    rfl
  · rw [if_neg h]
    by_cases hk : k ≤ L.length
    · have hl : ((L.take k).map c).length = k := by rw [List.length_map, List.length_take]; omega
      rw [List.getElem?_append_right (by omega), hl, List.getElem?_drop, show k + (i - k) = i by omega]
    · omega
theorem mixR_succ (c : Rec → Rec) (k : Nat) (L : List Rec) (hk : k < L.length) : mixR c (k + 1) L = (mixR c k L).set k (c (L.getD k rec0)) := by
  refine List.ext_getElem? fun i => ?_
  by_cases hi : i < L.length
  · have h1 := mixR_at c (k + 1) L i hi
    have h2 := mixR_at c k L i hi
    have e : ∀ (M : List Rec), M.length = L.length → M[i]? = some (M.getD i rec0) := fun M hM => by
      rw [List.getD_eq_getElem?_getD, List.getElem?_eq_getElem (by omega)]
      rfl
    rw [e _ (mixR_len _ _ _), h1]
    by_cases hik : i = k
    · subst hik
      rw [List.getElem?_set_self (by rw [mixR_len]; exact hi), if_pos (by omega)]
    · rw [List.getElem?_set_ne (fun h => hik h.symm), e _ (mixR_len _ _ _), h2]
      by_cases h : i < k
      · rw [if_pos (by omega), if_pos h]
      · rw [if_neg (by omega), if_neg h]
  · rw [List.getElem?_eq_none (by rw [mixR_len]; omega), List.getElem?_eq_none (by rw [List.length_set, mixR_len]; omega)]
theorem cellsR_set : ∀ (L : List Rec) (us : List Value) (i : Nat) (f : Rec) (u : Value), us.length = L.length → i < L.length →
    cellsR (L.set i f) (us.set i u) = (((((cellsR L us).set (i * 5) (.int .i64 f.id)).set (i * 5 + 1) (.int .i64 f.ver)).set (i * 5 + 2) (.int .i64 f.kind)).set (i * 5 + 3) (.string (S f.lang))).set (i * 5 + 4) u
  | [], _, _, _, _, _, h => by cases h
  | a :: s, x :: xs, 0, f, u, _, _ => rfl
  | a :: s, x :: xs, i + 1, f, u, hl, h => by
    have ih := cellsR_set s xs i f u (by simpa using hl) (by simpa using h)
    have e : cellsR (a :: s) (x :: xs) = .int .i64 a.id :: .int .i64 a.ver :: .int .i64 a.kind :: .string (S a.lang) :: x :: cellsR s xs := rfl
    show cellsR (a :: s.set i f) (x :: xs.set i u) = _
    have e2 : cellsR (a :: s.set i f) (x :: xs.set i u) = .int .i64 a.id :: .int .i64 a.ver :: .int .i64 a.kind :: .string (S a.lang) :: x :: cellsR (s.set i f) (xs.set i u) := rfl
    rw [e2, ih, e, show (i + 1) * 5 = i * 5 + 1 + 1 + 1 + 1 + 1 by omega]
    rfl

/-- The row in which the first k records are changed. -/
def CR (V : World) (B : Nat) (v : Value) (c : Rec → Rec) (L : List Rec) (k : Nat) (w : World) : Prop :=
  ∃ us : List Value, us.length = L.length ∧ w.ownsRow B 33 5 v L.length (cellsR (mixR c k L) us) ∧
    (∀ i, i < k → i < L.length → NewX B v.ownBlock (FL (us.getD i .nilIface) (c (L.getD i rec0)).fields) w) ∧ (∀ i, k ≤ i → i < L.length → FL (us.getD i .nilIface) (L.getD i rec0).fields V)
theorem CR.start {V : World} {B : Nat} {v : Value} {c : Rec → Rec} {L : List Rec} {w : World} (h : RR V B v L w) : CR V B v c L 0 w := by
  obtain ⟨us, h1, h2, h3⟩ := h
  exact ⟨us, h1, by rw [mixR_zero]; exact h2, fun i hi => by omega, fun i _ hi => h3 i hi⟩
theorem CR.on {V : World} {B : Nat} {v : Value} {c : Rec → Rec} {L : List Rec} {k : Nat} {w w' : World} (h : CR V B v c L k w) (hs : w.heap.size ≤ w'.heap.size) (hb : ∀ i, B ≤ i → i < w.heap.size → w'.heap[i]? = w.heap[i]?) : CR V B v c L k w' := by
  obtain ⟨us, h1, h2, h3, h4⟩ := h
  exact ⟨us, h1, own_same h2 hb, fun i hi hl => (h3 i hi hl).on hs (fun j hj hk _ => hb j hj hk), h4⟩
theorem CR.after {V : World} {B : Nat} {v : Value} {c : Rec → Rec} {L : List Rec} {k : Nat} {w w' : World} (h : CR V B v c L k w) (hb : Below w.heap.size w w') : CR V B v c L k w' :=
  h.on hb.size fun i _ hi => hb.block i hi
theorem CR.form {V : World} {B : Nat} {v : Value} {c : Rec → Rec} {L : List Rec} {k : Nat} {w : World} (h : CR V B v c L k w) : ∃ ao cp, v = .slice ao L.length cp := by
  obtain ⟨us, _, h2, _⟩ := h
  exact own_form h2
theorem CR.rn {V : World} {B : Nat} {v : Value} {c : Rec → Rec} {L : List Rec} {w : World} (h : CR V B v c L L.length w) : RN B v (L.map c) w := by
  obtain ⟨us, h1, h2, h3, _⟩ := h
  rw [mixR_all] at h2
  refine ⟨us, by rw [List.length_map]; exact h1, by rw [List.length_map]; exact h2, fun i hi => ?_⟩
  rw [List.length_map] at hi
  have := h3 i hi hi
  rw [List.getD_eq_getElem?_getD, List.getD_eq_getElem?_getD, List.getElem?_eq_getElem hi] at this
  rw [List.getD_eq_getElem?_getD, List.getD_eq_getElem?_getD, List.getElem?_map, List.getElem?_eq_getElem hi]
  exact this
/-- What lies at the next record's place. -/
theorem CR.open {V : World} {B : Nat} {v : Value} {c : Rec → Rec} {L : List Rec} {k : Nat} {w : World} (h : CR V B v c L k w) (hk : k < L.length) :
    ∃ g cap u, v = .slice (some ⟨g, 0, none⟩) L.length cap ∧ B ≤ g ∧ g < w.heap.size ∧ L.length ≤ cap ∧ cap ≤ maxLen ∧
    (w.cell? ⟨g, k * 5, none⟩ = some (.int .i64 (L.getD k rec0).id) ∧ w.cell? ⟨g, k * 5 + 1, none⟩ = some (.int .i64 (L.getD k rec0).ver) ∧ w.cell? ⟨g, k * 5 + 2, none⟩ = some (.int .i64 (L.getD k rec0).kind) ∧ w.cell? ⟨g, k * 5 + 3, none⟩ = some (.string (S (L.getD k rec0).lang)) ∧ w.cell? ⟨g, k * 5 + 4, none⟩ = some u) ∧
    (∀ p, w.frozen? ⟨g, p, none⟩ = false) ∧ FL u (L.getD k rec0).fields V := by
  obtain ⟨us, h1, h2, h3, h4⟩ := h
  rcases h2.2 with ⟨_, h0⟩ | ⟨g, cap, cur, rfl, hb, hg, hc, hm, hs, ht⟩
  · omega
  · have hadd : ∀ j, (⟨g, 0, none⟩ : Addr).add j = ⟨g, j, none⟩ := fun j => by unfold Addr.add; split <;> simp_all
    have hcc := cellsR_at (mixR c k L) us k (by rw [mixR_len]; exact h1) (by rw [mixR_len]; exact hk)
    rw [mixR_at c k L k hk, if_neg (Nat.lt_irrefl _)] at hcc
    have t0 := h2.cells (g := g) rfl _ _ hcc.1
    have t1 := h2.cells (g := g) rfl _ _ hcc.2.1
    have t2 := h2.cells (g := g) rfl _ _ hcc.2.2.1
    have t3 := h2.cells (g := g) rfl _ _ hcc.2.2.2.1
    have t4 := h2.cells (g := g) rfl _ _ hcc.2.2.2.2
    rw [hadd] at t0 t1 t2 t3 t4
    exact ⟨g, cap, us.getD k .nilIface, rfl, hb, (Array.getElem?_eq_some_iff.1 hg).1, hc, hm, ⟨t0, t1, t2, t3, t4⟩, fun p => Lib.frozen_of_heap hg p, h4 k (Nat.le_refl _) hk⟩
def setR14at (w : World) (g p : Nat) (x0 x1 x2 x3 x4 : Value) : World := ((((w.setCell ⟨g, p, none⟩ x0).setCell ⟨g, p + 1, none⟩ x1).setCell ⟨g, p + 2, none⟩ x2).setCell ⟨g, p + 3, none⟩ x3).setCell ⟨g, p + 4, none⟩ x4
theorem setR14at_other {w : World} {g p : Nat} (x0 x1 x2 x3 x4 : Value) (i : Nat) (hi : i ≠ g) : (setR14at w g p x0 x1 x2 x3 x4).heap[i]? = w.heap[i]? := by
  unfold setR14at
  rw [heap_setn _ _ _ _ hi, heap_setn _ _ _ _ hi, heap_setn _ _ _ _ hi, heap_setn _ _ _ _ hi, heap_setn _ _ _ _ hi]
theorem setR14at_size (w : World) (g p : Nat) (x0 x1 x2 x3 x4 : Value) : (setR14at w g p x0 x1 x2 x3 x4).heap.size = w.heap.size := by
  unfold setR14at
  simp [World.setCell]
theorem setR14at_below {w0 w : World} {g B : Nat} (h : Below B w0 w) (hb : B ≤ g) (p : Nat) (x0 x1 x2 x3 x4 : Value) : Below B w0 (setR14at w g p x0 x1 x2 x3 x4) :=
  ((((h.setCell (p := ⟨g, p, none⟩) hb x0).setCell (p := ⟨g, p + 1, none⟩) hb x1).setCell (p := ⟨g, p + 2, none⟩) hb x2).setCell (p := ⟨g, p + 3, none⟩) hb x3).setCell (p := ⟨g, p + 4, none⟩) hb x4
/-- The next record is stored. -/
theorem CR.put {V : World} {B : Nat} {c : Rec → Rec} {L : List Rec} {k n : Nat} {w : World} {g cap N : Nat} (h : CR V B (.slice (some ⟨g, 0, none⟩) n cap) c L k w) (hn : L.length = n) (hk : k < n) (u : Value)
    (hu : New N (FL u (c (L.getD k rec0)).fields) w) (hN : g < N) (hBN : B ≤ N) :
    CR V B (.slice (some ⟨g, 0, none⟩) n cap) c L (k + 1) (setR14at w g (k * 5) (.int .i64 (c (L.getD k rec0)).id) (.int .i64 (c (L.getD k rec0)).ver) (.int .i64 (c (L.getD k rec0)).kind) (.string (S (c (L.getD k rec0)).lang)) u) := by
  subst hn
  obtain ⟨us, h1, h2, h3, h4⟩ := h
  have hob : (Value.slice (some ⟨g, 0, none⟩) L.length cap).ownBlock = some g := rfl
  have hmv : ∀ {P : World → Prop}, NewX B (some g) P w → NewX B (some g) P (setR14at w g (k * 5) (.int .i64 (c (L.getD k rec0)).id) (.int .i64 (c (L.getD k rec0)).ver) (.int .i64 (c (L.getD k rec0)).kind) (.string (S (c (L.getD k rec0)).lang)) u) :=
    fun hp => hp.on (Nat.le_of_eq (setR14at_size _ _ _ _ _ _ _ _).symm) (fun i _ _ hne => setR14at_other _ _ _ _ _ i (fun e => hne (by rw [e])))
  have hkl : k < us.length := by omega
  refine ⟨us.set k u, by rw [List.length_set]; exact h1, ?_, fun i hi hl => ?_, fun i hi hl => ?_⟩
  · rw [mixR_succ c k L hk, cellsR_set _ _ _ _ _ (by rw [mixR_len]; exact h1) (by rw [mixR_len]; exact hk)]
    exact row_set14 (row_set14 (row_set14 (row_set14 (row_set14 h2 _ _) _ _) _ _) _ _) _ _
  · rw [hob]
    rw [hob] at h3
    rw [List.getD_eq_getElem?_getD]
    by_cases hik : i = k
    · subst hik
      rw [List.getElem?_set_self hkl]
      exact hmv (NewX.of hu hBN (fun j hj => by cases hj; exact hN))
    · rw [List.getElem?_set_ne (fun e => hik e.symm), ← List.getD_eq_getElem?_getD]
      exact hmv (h3 i (by omega) hl)
  · rw [List.getD_eq_getElem?_getD, List.getElem?_set_ne (by omega), ← List.getD_eq_getElem?_getD]
    exact h4 i (by omega) hl
end

section
open Go.RowKit Go.PlainAid
set_option maxHeartbeats 16000000 in
set_option maxRecDepth 100000 in
theorem pTurn_any (a b : Int) (L : List Rec) (u : Value) (w : World) (hu : RL u L w) (hz : L.length ≤ 100000) (hsz : ∀ r ∈ L, r.fields.length ≤ 100000 ∧ ∀ f ∈ r.fields, f.subs.length ≤ 100000) :
    Calls Tryz.prog 21 #[u, .int .i64 a, .int .i64 b] w fun e w' => ∃ v', e = .returned v' ∧ New w.heap.size (RL v' (L.map (mapRec (turnX a b)))) w' ∧ Below w.heap.size w w' := by
  obtain ⟨Q, hQ⟩ : ∃ Q, (fun (e : Ending) (w' : World) => ∃ v', e = .returned v' ∧ New w.heap.size (RL v' (L.map (mapRec (turnX a b)))) w' ∧ Below w.heap.size w w') = Q := ⟨_, rfl⟩
  rw [hQ]
  have HQ : RowKit.Hid (∀ v' W, New w.heap.size (RL v' (L.map (mapRec (turnX a b)))) W → Below w.heap.size w W → Q (.returned v') W) := by
    rw [← hQ]
    exact fun v' W h1 h2 => ⟨v', rfl, h1, h2⟩
  have HS := Lib.hid hsz
  obtain ⟨ua, uc, hua, hcap, hmax⟩ := hu.length
  obtain ⟨W0, hW0⟩ : ∃ W0, (w.alloc (.cells #[.int .i64 a] 3)).alloc (.cells #[.int .i64 b] 3) = W0 := ⟨_, rfl⟩
  have b0 : Below w.heap.size w W0 := by rw [← hW0]; exact ((Below.refl w.heap.size w).alloc (Nat.le_refl _) _).alloc (by simp) _
  have hsz0 : W0.heap.size = w.heap.size + 2 := by rw [← hW0]; simp
  have hA : W0.heap[w.heap.size]? = some (.cells #[.int .i64 a] 3 (0, 0)) := by
    rw [← hW0]
    exact (Below.heap_alloc _ _ _ (by simp)).trans (heap_alloc_new w _)
  have hB : W0.heap[w.heap.size + 1]? = some (.cells #[.int .i64 b] 3 (0, 0)) := by
    rw [← hW0]
    have := heap_alloc_new (w.alloc (.cells #[.int .i64 a] 3)) (.cells #[.int .i64 b] 3)
    simpa using this
  have cK := Lib.hid (rclone_any w L u W0 b0 hu hz)
  rw [hsz0] at cK
  have HW0 := Lib.hid hW0
  have HA := Lib.hid (fun (W : World) (h : Below (w.heap.size + 2) W0 W) => (h.block w.heap.size (by omega)).trans hA)
  have HB := Lib.hid (fun (W : World) (h : Below (w.heap.size + 2) W0 W) => (h.block (w.heap.size + 1) (by omega)).trans hB)
  have HB0 := Lib.hid b0
  have HSz := Lib.hid hsz0
  have HCh := Lib.hid (fun (r : Rec) (hr : r ∈ L) (u : Value) (W : World) (hu : FL u r.fields W) (h : Below (w.heap.size + 2) W0 W) => changed_any (turnX a b) 44 #[.pointer (some ⟨w.heap.size, 0, none⟩), .pointer (some ⟨w.heap.size + 1, 0, none⟩)] r u W hu (hsz r hr).1 (hsz r hr).2 enter_turn
    (fun f _ v N W1 hW1 hs _ hN2 => turnF_any a b w.heap.size (w.heap.size + 1) f v N W1 hs hN2 (HA.out W1 (h.trans (hW1.mono (by have := h.size; omega)))) (HB.out W1 (h.trans (hW1.mono (by have := h.size; omega))))))
  obtain ⟨n, hn⟩ : ∃ n, L.length = n := ⟨_, rfl⟩
  have HN := Lib.hid hn
  rw [hn] at hcap hz hua
  subst hua
  clear hQ hu hsz hW0 hA hB b0 hsz0 hn
  obtain ⟨c, hc⟩ : ∃ c, mapRec (turnX a b) = c := ⟨_, rfl⟩
  have HC := Lib.hid (fun (r : Rec) => (by rw [← hc]; rfl : c r = { r with fields := r.fields.map (turnX a b) }))
  rw [hc] at HQ HCh
  clear hc
  go_enter Tryz.func21, Tryz.ntmps21
  go_upto_region 2 with fail
  rw [HW0.out]
  go_wp2_with fail
  refine cK.out.mono ?_
  rintro e w1 ⟨v, rfl, hrr, hb1⟩
  have HR1 : RowKit.Hid (CR w (w.heap.size + 2) v c L 0 w1) := CR.start hrr
  have HB1 : RowKit.Hid (Below (w.heap.size + 2) W0 w1) := hb1
  obtain ⟨ao, cp, hv⟩ := HR1.out.form
  rw [HN.out] at hv
  subst hv
  clear hrr hb1 cK
  go_wp2
  go_loopw [16] (fun s16 wr => ∃ k : Nat, s16 = .int .i64 (k : Int) ∧ k ≤ n ∧ RowKit.Hid (CR w (w.heap.size + 2) (.slice ao n cp) c L k wr) ∧ RowKit.Hid (Below (w.heap.size + 2) W0 wr)) (fun s16 _ => n - (intOf s16).toNat)
  case atStart => exact ⟨0, rfl, Nat.zero_le _, HR1.out, HB1.out⟩
  case round =>
    obtain ⟨k, rfl, hk, HR, HBr⟩ := hrel
    clear HR1 HB1
    by_cases hkn : k < n
    · have i1 : (0 : Int) ≤ (k : Int) := by omega
      have i2 : (k : Int) < (n : Int) := by omega
      obtain ⟨g, cap, ur, hv, hg1, hg2, hc1, hc2, ⟨c0, c1, c2, c3, c4⟩, hfz, hq⟩ := HR.out.open (by rw [HN.out]; exact hkn)
      rw [HN.out] at hv
      obtain ⟨rfl, -, rfl⟩ := Value.slice.inj hv
      obtain ⟨ax, cx, hux, hx1, hx2⟩ := hq.length
      have hmem : L.getD k rec0 ∈ L := by
        rw [List.getD_eq_getElem?_getD, List.getElem?_eq_getElem (by rw [HN.out]; exact hkn)]
        exact List.getElem_mem _
      have HPut := Lib.hid (fun (W : World) (h : CR w (w.heap.size + 2) (.slice (some ⟨g, 0, none⟩) n cp) c L k W) (u : Value) (N : Nat) (hu : New N (FL u (c (L.getD k rec0)).fields) W) (h1 : g < N) (h2 : w.heap.size + 2 ≤ N) => CR.put h HN.out hkn u hu h1 h2)
      obtain ⟨r, hr⟩ : ∃ r, L.getD k rec0 = r := ⟨_, rfl⟩
      rw [hr] at c0 c1 c2 c3 hq hux hmem HPut
      obtain ⟨wb, hwb⟩ : ∃ W, wr.alloc (.cells #[.int .i64 r.id, .int .i64 r.ver, .int .i64 r.kind, .string (S r.lang), ur] 33) = W := ⟨_, rfl⟩
      have bb : Below wr.heap.size wr wb := by rw [← hwb]; exact (Below.refl _ _).alloc (Nat.le_refl _) _
      have hsr : w.heap.size + 2 ≤ wr.heap.size := by have := HBr.out.size; have := HSz.out; omega
      have HBb : RowKit.Hid (Below (w.heap.size + 2) W0 wb) := HBr.out.trans (bb.mono hsr)
      have HRb : RowKit.Hid (CR w (w.heap.size + 2) (.slice (some ⟨g, 0, none⟩) n cp) c L k wb) := HR.out.after bb
      have hw0b : Below w.heap.size w wb := HB0.out.trans (HBb.out.mono (Nat.le_add_right _ _))
      have cC := Lib.hid (HCh.out r hmem ur wb (hq.after hw0b) HBb.out)
      have HG : RowKit.Hid (g < wb.heap.size ∧ w.heap.size + 2 ≤ wb.heap.size ∧ w.heap.size + 2 ≤ g) := ⟨by have := bb.size; omega, by have := bb.size; omega, hg1⟩
      have hcr := HC.out r
      obtain ⟨cr, hcc⟩ : ∃ cr, c r = cr := ⟨_, rfl⟩
      rw [hcc] at hcr HPut cC
      have hcf : cr.fields = r.fields.map (turnX a b) := by rw [hcr]
      rw [← hcf] at cC
      have hXb : wb.heap[wr.heap.size]? = some (.cells #[.int .i64 r.id, .int .i64 r.ver, .int .i64 r.kind, .string (S r.lang), ur] 33 (0, 0)) := by rw [← hwb]; exact heap_alloc_new wr _
      obtain ⟨⟨y0, y1, y2, y3, y4⟩, -⟩ := rcells14 hXb
      have HWb := Lib.hid hwb
      unfold RV at cC
      subst hux
      clear hv hq hx1 hx2 hmem hr hfz hg1 hg2 hc1 hc2 bb HR HCh hw0b hcc hcf hcr hwb hsr hXb
      generalize hnx : r.fields.length = nx at *
      clear hnx
      go_upto_region 6 with fail
      rw [HWb.out]
      clear HWb c0 c1 c2 c3 c4
      go_wp2_with fail
      refine cC.out.mono ?_
      rintro e w6 ⟨u', rfl, hn6, hb6⟩
      have hC6 := HRb.out.after hb6
      obtain ⟨au, cu, hu', -, -⟩ := hn6.here.length
      obtain ⟨g', cap', ux', hv2, -, -, -, -, ⟨d0, d1, d2, d3, d4⟩, hfz, -⟩ := hC6.open (by rw [HN.out]; exact hkn)
      rw [HN.out] at hv2
      obtain ⟨hgg, -, -⟩ := Value.slice.inj hv2
      obtain rfl : g = g' := by simpa using hgg
      have z0 := hfz (k * 5)
      have z1 := hfz (k * 5 + 1)
      have z2 := hfz (k * 5 + 2)
      have z3 := hfz (k * 5 + 3)
      have z4 := hfz (k * 5 + 4)
      have hn7 : New wb.heap.size (FL u' cr.fields) w6 := hn6
      have HP := Lib.hid (HPut.out w6 hC6 u' wb.heap.size hn7 HG.out.1 HG.out.2.1)
      have HBP : RowKit.Hid (Below (w.heap.size + 2) W0 (setR14at w6 g (k * 5) (.int .i64 cr.id) (.int .i64 cr.ver) (.int .i64 cr.kind) (.string (S cr.lang)) u')) :=
        setR14at_below (HBb.out.trans (hb6.mono HG.out.2.1)) HG.out.2.2 _ _ _ _ _ _
      subst hu'
      unfold setR14at at HP HBP
      clear hn6 hn7 hb6 hC6 hv2 hgg hfz cC HPut
      go_wp2
      go_roundw
      case rel => exact ⟨k + 1, by go_num, by omega, HP.out, HBP.out⟩
      case measure => simp [intOf]; omega
    · obtain rfl : k = n := by omega
      have hfn : CR w (w.heap.size + 2) (.slice ao k cp) c L L.length wr := by rw [HN.out]; exact HR.out
      have HG := Lib.hid (HQ.out _ wr (hfn.rn.new.mono (by omega)) (HB0.out.trans (HBr.out.mono (by omega))))
      clear hfn HQ HR HBr
      go_wp2
      first | exact HG.out | (go_ret; exact HG.out)
end

section
theorem compact_asc (d : Array Int) (hs : ∀ i j, i ≤ j → j < d.size → d[i]! ≤ d[j]!) : ∀ m, m ≤ d.size → AscU (Lib.compactUpTo d m) ∧ ∀ x, x ∈ Lib.compactUpTo d m ↔ ∃ j, j < m ∧ d[j]! = x
  | 0, _ => by
    have e : Lib.compactUpTo d 0 = [] := rfl
    rw [e]
    refine ⟨List.Pairwise.nil, fun x => ⟨fun h => (by cases h), fun ⟨j, h, _⟩ => by omega⟩⟩
  | m + 1, hm => by
    obtain ⟨h1, h2⟩ := compact_asc d hs m (by omega)
    rw [Lib.compactUpTo_succ]
    cases hk : Lib.keeps d m with
    | true =>
      rw [if_pos rfl]
      refine ⟨?_, fun x => ?_⟩
      · unfold AscU
        rw [List.pairwise_append]
        refine ⟨h1, List.pairwise_singleton _ _, fun a ha b hb => ?_⟩
        rw [List.mem_singleton] at hb
        subst hb
        obtain ⟨j, hj, rfl⟩ := (h2 a).1 ha
        have hne : d[m]! ≠ d[m - 1]! := by
          intro e
          rw [Lib.keeps_neg (by omega) e] at hk
          cases hk
        have g1 := hs j (m - 1) (by omega) (by omega)
        have g2 := hs (m - 1) m (by omega) (by omega)
        omega
      · rw [List.mem_append, h2, List.mem_singleton]
        constructor
        · rintro (⟨j, hj, h⟩ | rfl)
          · exact ⟨j, by omega, h⟩
          · exact ⟨m, by omega, rfl⟩
        · rintro ⟨j, hj, h⟩
          rcases Nat.lt_or_ge j m with g | g
          · exact .inl ⟨j, g, h⟩
          · obtain rfl : j = m := by omega
            exact .inr h.symm
    | false =>
      rw [if_neg (by decide), List.append_nil]
      refine ⟨h1, fun x => ?_⟩
      rw [h2]
      constructor
      · rintro ⟨j, hj, h⟩
        exact ⟨j, by omega, h⟩
      · rintro ⟨j, hj, h⟩
        rcases Nat.lt_or_ge j m with g | g
        · exact ⟨j, g, h⟩
        · obtain rfl : j = m := by omega
          have hp : 0 < j := by
            rcases Nat.eq_zero_or_pos j with g0 | g0
            · subst g0
              rw [Lib.keeps_lt_one d 0 (by omega)] at hk
              cases hk
            · exact g0
          refine ⟨j - 1, by omega, ?_⟩
          rw [← h]
          by_cases e : d[j]! = d[j - 1]!
          · exact e.symm
          · rw [Lib.keeps_pos e] at hk
            cases hk
theorem compact_sort (M : List Int) : AscU (Lib.compact (M.mergeSort fun x y => decide (x ≤ y))) ∧ ∀ x, x ∈ Lib.compact (M.mergeSort fun x y => decide (x ≤ y)) ↔ x ∈ M := by
  have tr : ∀ a b c : Int, decide (a ≤ b) = true → decide (b ≤ c) = true → decide (a ≤ c) = true := fun a b c h1 h2 => by simp only [decide_eq_true_eq] at *; exact Int.le_trans h1 h2
  have tot : ∀ a b : Int, (decide (a ≤ b) || decide (b ≤ a)) = true := fun a b => by simp only [Bool.or_eq_true, decide_eq_true_eq]; exact Int.le_total a b
  obtain ⟨Z, hZ⟩ : ∃ Z, M.mergeSort (fun x y => decide (x ≤ y)) = Z := ⟨_, rfl⟩
  have h1 : Z.Pairwise fun a b => decide (a ≤ b) = true := by rw [← hZ]; exact List.pairwise_mergeSort tr tot M
  have hp : ∀ x, x ∈ Z ↔ x ∈ M := fun x => by rw [← hZ]; exact (List.mergeSort_perm M _).mem_iff
  rw [hZ]
  have hget : ∀ i, (hi : i < Z.length) → Z.toArray[i]! = Z[i] := fun i hi => by simp [getElem!_pos, hi]
  have hs : ∀ i j, i ≤ j → j < Z.toArray.size → Z.toArray[i]! ≤ Z.toArray[j]! := by
    intro i j hij hj
    have hj' : j < Z.length := by simpa using hj
    rw [hget i (by omega), hget j hj']
    rcases Nat.lt_or_ge i j with h | h
    · exact of_decide_eq_true ((List.pairwise_iff_getElem.1 h1) i j (by omega) hj' h)
    · obtain rfl : i = j := by omega
      exact Int.le_refl _
  obtain ⟨h3, h4⟩ := compact_asc Z.toArray hs Z.length (by simp)
  refine ⟨h3, fun x => ?_⟩
  rw [← hp]
  refine (h4 x).trans ⟨fun ⟨j, hj, h⟩ => ?_, fun h => ?_⟩
  · rw [hget j hj] at h
    rw [← h]
    exact List.getElem_mem hj
  · obtain ⟨j, hj, rfl⟩ := List.getElem_of_mem h
    exact ⟨j, hj, hget j hj⟩
/-- Whether a record uses an authority. -/
def usesB (id : Int) (r : Rec) : Bool := r.fields.any fun f => decide (f.auth = id)
def usersL (L : List Rec) (id : Int) : List Int := (L.filter (usesB id)).map (·.id)
theorem uses_eq (L : List Rec) (id : Int) (h : 1 ≤ id) : Lib.compact ((usersL L id).mergeSort fun x y => decide (x ≤ y)) = usesX L id := by
  obtain ⟨h1, h2⟩ := compact_sort (usersL L id)
  refine asc_ext _ _ h1 (usesU_asc _ _) fun i => ?_
  rw [h2]
  unfold usersL usesX
  rw [usesU_mem, List.mem_map]
  constructor
  · rintro ⟨r, hr, rfl⟩
    obtain ⟨hr1, hr2⟩ := List.mem_filter.1 hr
    refine ⟨pairU r, List.mem_map.2 ⟨r, hr1, rfl⟩, rfl, by omega, ?_⟩
    unfold usesB at hr2
    rw [List.any_eq_true] at hr2
    obtain ⟨f, hf, he⟩ := hr2
    exact List.mem_map.2 ⟨f, hf, of_decide_eq_true he⟩
  · rintro ⟨p, hp, rfl, _, hm⟩
    obtain ⟨r, hr, rfl⟩ := List.mem_map.1 hp
    obtain ⟨f, hf, he⟩ := List.mem_map.1 hm
    refine ⟨r, List.mem_filter.2 ⟨hr, ?_⟩, rfl⟩
    unfold usesB
    rw [List.any_eq_true]
    exact ⟨f, hf, decide_eq_true he⟩
theorem uses_none (L : List Rec) (id : Int) (h : ¬ 1 ≤ id) : usesX L id = [] := by
  refine List.eq_nil_iff_forall_not_mem.2 fun i hi => ?_
  obtain ⟨_, _, _, h2, _⟩ := (usesU_mem _ _ _).1 hi
  omega
theorem users_snoc (L : List Rec) (id : Int) (k : Nat) (hk : k < L.length) : usersL (L.take (k + 1)) id = usersL (L.take k) id ++ (if usesB id (L.getD k rec0) = true then [(L.getD k rec0).id] else []) := by
  have e : L.take (k + 1) = L.take k ++ [L.getD k rec0] := by
    rw [List.take_succ_eq_append_getElem hk, List.getD_eq_getElem?_getD, List.getElem?_eq_getElem hk]
    rfl
  rw [e]
  unfold usersL
  rw [List.filter_append, List.map_append]
  congr 1
  generalize L.getD k rec0 = r
  by_cases h : usesB id r = true
  · rw [if_pos h]; simp [h]
  · rw [if_neg h]; simp [h]
theorem users_len (L : List Rec) (id : Int) : (usersL L id).length ≤ L.length := by
  unfold usersL
  rw [List.length_map]
  exact List.length_filter_le _ _
theorem usesX_len (L : List Rec) (id : Int) : (usesX L id).length ≤ L.length := by
  unfold usesX usesU
  have : ∀ (l : List (Int × List Int)) (out : List Int), (l.foldl (fun out r => if 0 < id ∧ id ∈ r.2 then insU out r.1 else out) out).length ≤ out.length + l.length := by
    intro l
    induction l with
    | nil => intro out; exact Nat.le_refl _
    | cons r l ih =>
      intro out
      rw [List.foldl_cons]
      have h1 := ih (if 0 < id ∧ id ∈ r.2 then insU out r.1 else out)
      have h2 : (if 0 < id ∧ id ∈ r.2 then insU out r.1 else out).length ≤ out.length + 1 := by
        split
        · exact insU_len r.1 out
        · omega
      rw [List.length_cons]
      omega
  have := this (L.map pairU) []
  rw [List.length_map] at this
  simpa using this
end

end Go.Proofs.YthjdopnoophigaaGreatDoor
