/- Merged: News, KD16, KL16. -/
import Derived.Test.YtceneblmllpdnaaDoorQ12
import Derived.Laws.ResultCell
import Derived.Laws.AppendOwnNone
import Derived.Test.YtceneblmllpdnaaDoorQ11
import Derived.Deep.CutBlock
import Derived.Deep.DeepCutAuto
import Derived.Deep.RegionLaw
import Derived.RegionTactic
import Derived.BigRegion
import Derived.Test.YtceneblmllpdnaaDoorQ10
import Derived.Test.YtceneblmllpdnaaDoorQ08
namespace Go.Proofs.YtceneblmllpdnaaDoor

section
open Go.RowKit Go.PlainAid
/-- What holds of blocks from B on alone. -/
def New (B : Nat) (P : World → Prop) (w : World) : Prop := ∀ w' : World, w.heap.size ≤ w'.heap.size → (∀ i, B ≤ i → i < w.heap.size → w'.heap[i]? = w.heap[i]?) → P w'
theorem New.here {B : Nat} {P : World → Prop} {w : World} (h : New B P w) : P w := h w (Nat.le_refl _) (fun _ _ _ => rfl)
theorem New.on {B : Nat} {P : World → Prop} {w w' : World} (h : New B P w) (hs : w.heap.size ≤ w'.heap.size) (hb : ∀ i, B ≤ i → i < w.heap.size → w'.heap[i]? = w.heap[i]?) : New B P w' :=
  fun w2 h1 h2 => h w2 (Nat.le_trans hs h1) fun i h3 h4 => (h2 i h3 (Nat.lt_of_lt_of_le h4 hs)).trans (hb i h3 h4)
theorem New.mono {B B' : Nat} {P : World → Prop} {w : World} (h : New B' P w) (hB : B ≤ B') : New B P w :=
  fun w2 h1 h2 => h w2 h1 fun i h3 h4 => h2 i (Nat.le_trans hB h3) h4
theorem New.after {B : Nat} {P : World → Prop} {w w' : World} (h : New B P w) (hb : Below w.heap.size w w') : New B P w' := h.on hb.size fun i _ hi => hb.block i hi

theorem heap_setn (w : World) (p : Addr) (v : Value) (g : Nat) (h : g ≠ p.block) : (w.setCell p v).heap[g]? = w.heap[g]? := Below.heap_setCell _ _ _ _ h
/-- A row that lies from B on lies there in every world with the same blocks from B on. -/
theorem own_same {w w' : World} {B e size n : Nat} {v : Value} {xs : List Value} (h : w.ownsRow B e size v n xs) (hb : ∀ i, B ≤ i → i < w.heap.size → w'.heap[i]? = w.heap[i]?) : w'.ownsRow B e size v n xs := by
  refine ⟨h.1, ?_⟩
  rcases h.2 with hn | ⟨g, cap, cur, hv, hB', hg, rest⟩
  · exact .inl hn
  · exact .inr ⟨g, cap, cur, hv, hB', (hb g hB' (Array.getElem?_eq_some_iff.1 hg).1).trans hg, rest⟩

/-- What holds of blocks from B on but one. -/
def NewX (B : Nat) (og : Option Nat) (P : World → Prop) (w : World) : Prop := ∀ w' : World, w.heap.size ≤ w'.heap.size → (∀ i, B ≤ i → i < w.heap.size → some i ≠ og → w'.heap[i]? = w.heap[i]?) → P w'
theorem NewX.of {B B' : Nat} {og : Option Nat} {P : World → Prop} {w : World} (h : New B' P w) (hB : B ≤ B') (ho : ∀ k, og = some k → k < B') : NewX B og P w :=
  fun w2 h1 h2 => h w2 h1 fun i h3 h4 => h2 i (Nat.le_trans hB h3) h4 (fun e => by have := ho i e.symm; omega)
theorem NewX.on {B : Nat} {og : Option Nat} {P : World → Prop} {w w' : World} (h : NewX B og P w) (hs : w.heap.size ≤ w'.heap.size) (hb : ∀ i, B ≤ i → i < w.heap.size → some i ≠ og → w'.heap[i]? = w.heap[i]?) : NewX B og P w' :=
  fun w2 h1 h2 => h w2 (Nat.le_trans hs h1) fun i h3 h4 h5 => (h2 i h3 (Nat.lt_of_lt_of_le h4 hs) h5).trans (hb i h3 h4 h5)
theorem NewX.move {B : Nat} {og og' : Option Nat} {P : World → Prop} {w w' : World} (h : NewX B og P w) (hs : w.heap.size ≤ w'.heap.size) (hb : ∀ i, B ≤ i → i < w.heap.size → some i ≠ og → w'.heap[i]? = w.heap[i]?) (ho : og' = og ∨ ∃ n, og' = some n ∧ w.heap.size ≤ n) : NewX B og' P w' :=
  fun w2 h1 h2 => h w2 (Nat.le_trans hs h1) fun i h3 h4 h5 => (h2 i h3 (Nat.lt_of_lt_of_le h4 hs) (by
    rcases ho with rfl | ⟨n, rfl, hn⟩
    · exact h5
    · intro e
      have := Option.some.inj e
      omega)).trans (hb i h3 h4 h5)

/-- A row of fields from block B on; their subfields lie in new blocks besides. -/
def FN (B : Nat) (v : Value) (L : List Fld) (w : World) : Prop :=
  ∃ us : List Value, us.length = L.length ∧ w.ownsRow B 45 4 v L.length (cellsF L us) ∧ ∀ i, i < L.length → NewX B v.ownBlock (QL (us.getD i .nilIface) (L.getD i fd0).subs) w
theorem FN.nil (B : Nat) (w : World) : FN B (.slice none 0 0) [] w := ⟨[], rfl, World.ownsRow_nil _ _ _ _, fun i hi => by cases hi⟩
theorem FN.on {B : Nat} {v : Value} {L : List Fld} {w w' : World} (h : FN B v L w) (hs : w.heap.size ≤ w'.heap.size) (hb : ∀ i, B ≤ i → i < w.heap.size → w'.heap[i]? = w.heap[i]?) : FN B v L w' := by
  obtain ⟨us, h1, h2, h3⟩ := h
  exact ⟨us, h1, own_same h2 hb, fun i hi => (h3 i hi).on hs (fun j hj hk _ => hb j hj hk)⟩
theorem FN.fl {B : Nat} {v : Value} {L : List Fld} {w : World} (h : FN B v L w) : FL v L w := by
  obtain ⟨us, hl, hown, hq⟩ := h
  rcases hown.2 with ⟨rfl, h0⟩ | ⟨g, cap, cur, rfl, hb, hg, hc, hm, hs, ht⟩
  · have : L = [] := List.eq_nil_of_length_eq_zero h0
    subst this
    exact ⟨none, 0, rfl, Nat.le_refl _, Nat.zero_le _, fun _ => rfl, fun i hi => by cases hi⟩
  · have hadd : ∀ j, (⟨g, 0, none⟩ : Addr).add j = ⟨g, j, none⟩ := fun j => by unfold Addr.add; split <;> simp_all
    refine ⟨_, cap, rfl, hc, hm, (fun h => by cases h), fun i hi => ?_⟩
    have hcc := cellsF_at L us i hl hi
    have t0 := hown.cells (g := g) rfl _ _ hcc.1
    have t1 := hown.cells (g := g) rfl _ _ hcc.2.1
    have t2 := hown.cells (g := g) rfl _ _ hcc.2.2.1
    have t3 := hown.cells (g := g) rfl _ _ hcc.2.2.2
    rw [hadd] at t0 t1 t2 t3
    refine ⟨g, 0, us.getD i .nilIface, rfl, (Array.getElem?_eq_some_iff.1 hg).1, ?_⟩
    rw [Nat.zero_add]
    exact ⟨t0, t1, t2, t3, (hq i hi) w (Nat.le_refl _) (fun _ _ _ _ => rfl)⟩
theorem FN.new {B : Nat} {v : Value} {L : List Fld} {w : World} (h : FN B v L w) : New B (FL v L) w := fun _ hs hb => (h.on hs hb).fl
/-- What the walk needs for an append, and the longer row. -/
theorem FN.open {B : Nat} {v : Value} {L : List Fld} {w : World} (h : FN B v L w) :
    ∃ xs : List Value, w.ownsRow B 45 4 v L.length xs ∧ ∀ (f : Fld) (u v' : Value) (w' : World), NewX B v.ownBlock (QL u f.subs) w → w.grownBy w' v.ownBlock → (v'.ownBlock = v.ownBlock ∨ v'.ownBlock = some w.heap.size) →
      w'.ownsRow B 45 4 v' (L.length + 1) (xs ++ encF f u) → FN B v' (L ++ [f]) w' := by
  obtain ⟨us, hl, hown, hq⟩ := h
  refine ⟨_, hown, fun f u v' w' hu hg hb hown' => ⟨us ++ [u], by rw [List.length_append, List.length_append, hl]; rfl, ?_, fun i hi => ?_⟩⟩
  · rw [cellsF_snoc L us f u hl, List.length_append]
    exact hown'
  · have hmv : ∀ {P : World → Prop}, NewX B v.ownBlock P w → NewX B v'.ownBlock P w' := fun hp => hp.move hg.size (fun j _ hk hne => hg.block j hk hne) (hb.imp id fun h => ⟨_, h, Nat.le_refl _⟩)
    rw [getD_app, getD_appF, hl]
    by_cases h1 : i < L.length
    · rw [if_pos h1, if_pos h1]; exact hmv (hq i h1)
    · have : i = L.length := by rw [List.length_append] at hi; simp at hi; omega
      subst this
      rw [if_neg h1, if_neg h1, Nat.sub_self]
      exact hmv hu

/-- A slice of these records. -/
def RL (v : Value) (L : List Rec) (w : World) : Prop :=
  ∃ a cap, v = .slice a L.length cap ∧ L.length ≤ cap ∧ cap ≤ maxLen ∧ (a = none → cap = 0) ∧ ∀ i, i < L.length → ∃ g o u, a = some ⟨g, o, none⟩ ∧ g < w.heap.size ∧
    w.cell? ⟨g, o + i * 5, none⟩ = some (.int .i64 (L.getD i rec0).id) ∧ w.cell? ⟨g, o + i * 5 + 1, none⟩ = some (.int .i64 (L.getD i rec0).ver) ∧ w.cell? ⟨g, o + i * 5 + 2, none⟩ = some (.int .i64 (L.getD i rec0).kind) ∧
    w.cell? ⟨g, o + i * 5 + 3, none⟩ = some (.string (S (L.getD i rec0).lang)) ∧ w.cell? ⟨g, o + i * 5 + 4, none⟩ = some u ∧ FL u (L.getD i rec0).fields w
theorem RL.nil (w : World) : RL (.slice none 0 0) [] w := ⟨none, 0, rfl, Nat.le_refl _, Nat.zero_le _, fun _ => rfl, fun i hi => by cases hi⟩
theorem RL.after {v : Value} {L : List Rec} {w w' : World} (h : RL v L w) (hb : Below w.heap.size w w') : RL v L w' := by
  obtain ⟨a, cap, rfl, hc, hm, hn, hx⟩ := h
  refine ⟨a, cap, rfl, hc, hm, hn, fun i hi => ?_⟩
  obtain ⟨g, o, u, rfl, hg, h0, h1, h2, h3, h4, hq⟩ := hx i hi
  exact ⟨g, o, u, rfl, Nat.lt_of_lt_of_le hg hb.size, (hb.cell (p := ⟨g, o + i * 5, none⟩) hg).trans h0, (hb.cell (p := ⟨g, o + i * 5 + 1, none⟩) hg).trans h1,
    (hb.cell (p := ⟨g, o + i * 5 + 2, none⟩) hg).trans h2, (hb.cell (p := ⟨g, o + i * 5 + 3, none⟩) hg).trans h3, (hb.cell (p := ⟨g, o + i * 5 + 4, none⟩) hg).trans h4, hq.after hb⟩
theorem RL.length {v : Value} {L : List Rec} {w : World} (h : RL v L w) : ∃ a cap, v = .slice a L.length cap ∧ L.length ≤ cap ∧ cap ≤ maxLen := by
  obtain ⟨a, cap, h1, h2, h3, _⟩ := h
  exact ⟨a, cap, h1, h2, h3⟩
theorem RL.at {v : Value} {L : List Rec} {w : World} (h : RL v L w) (k : Nat) (hk : k < L.length) : ∃ g o cap u, v = .slice (some ⟨g, o, none⟩) L.length cap ∧ g < w.heap.size ∧
    w.cell? ⟨g, o + k * 5, none⟩ = some (.int .i64 (L.getD k rec0).id) ∧ w.cell? ⟨g, o + k * 5 + 1, none⟩ = some (.int .i64 (L.getD k rec0).ver) ∧ w.cell? ⟨g, o + k * 5 + 2, none⟩ = some (.int .i64 (L.getD k rec0).kind) ∧
    w.cell? ⟨g, o + k * 5 + 3, none⟩ = some (.string (S (L.getD k rec0).lang)) ∧ w.cell? ⟨g, o + k * 5 + 4, none⟩ = some u ∧ FL u (L.getD k rec0).fields w := by
  obtain ⟨a, cap, rfl, hc, hm, hn, hx⟩ := h
  obtain ⟨g, o, u, rfl, hh⟩ := hx k hk
  exact ⟨g, o, cap, u, rfl, hh⟩

/-! Rows of the call's own. -/
def encR (r : Rec) (u : Value) : List Value := [.int .i64 r.id, .int .i64 r.ver, .int .i64 r.kind, .string (S r.lang), u]
def cellsR : List Rec → List Value → List Value
  | r :: t, u :: us => encR r u ++ cellsR t us
  | _, _ => []
theorem cellsR_app : ∀ (L : List Rec) (us : List Value) (M : List Rec) (vs : List Value), us.length = L.length → cellsR (L ++ M) (us ++ vs) = cellsR L us ++ cellsR M vs
  | [], [], M, vs, _ => by simp [cellsR]
  | a :: s, x :: xs, M, vs, h => by
    have := cellsR_app s xs M vs (by simpa using h)
    simp only [List.cons_append, cellsR, this, List.append_assoc]
theorem cellsR_snoc (L : List Rec) (us : List Value) (f : Rec) (u : Value) (h : us.length = L.length) : cellsR (L ++ [f]) (us ++ [u]) = cellsR L us ++ encR f u := by
  rw [cellsR_app L us [f] [u] h]
  simp [cellsR]
theorem cellsR_at : ∀ (L : List Rec) (us : List Value) (i : Nat), us.length = L.length → i < L.length → (cellsR L us)[i * 5]? = some (.int .i64 (L.getD i rec0).id) ∧ (cellsR L us)[i * 5 + 1]? = some (.int .i64 (L.getD i rec0).ver) ∧
    (cellsR L us)[i * 5 + 2]? = some (.int .i64 (L.getD i rec0).kind) ∧ (cellsR L us)[i * 5 + 3]? = some (.string (S (L.getD i rec0).lang)) ∧ (cellsR L us)[i * 5 + 4]? = some (us.getD i .nilIface)
  | [], _, _, _, h => by cases h
  | a :: s, x :: xs, 0, _, _ => ⟨rfl, rfl, rfl, rfl, rfl⟩
  | a :: s, x :: xs, i + 1, hl, h => by
    have := cellsR_at s xs i (by simpa using hl) (by simpa using h)
    have e : cellsR (a :: s) (x :: xs) = .int .i64 a.id :: .int .i64 a.ver :: .int .i64 a.kind :: .string (S a.lang) :: x :: cellsR s xs := rfl
    rw [e, show (i + 1) * 5 = i * 5 + 1 + 1 + 1 + 1 + 1 by omega]
    simp only [List.getElem?_cons_succ]
    exact this
theorem cellsR_length : ∀ (L : List Rec) (us : List Value), us.length = L.length → (cellsR L us).length = L.length * 5
  | [], _, _ => by simp [cellsR]
  | f :: t, u :: us, h => by
    have := cellsR_length t us (by simpa using h)
    simp only [cellsR, List.length_append, this, encR, List.length_cons, List.length_nil]
    omega
theorem cellsR_news {g : Nat} {w : World} : ∀ (L : List Rec) (us : List Value) (o : Nat), us.length = L.length →
    (∀ i, i < L.length → w.cell? ⟨g, o + i * 5, none⟩ = some (.int .i64 (L.getD i rec0).id) ∧ w.cell? ⟨g, o + i * 5 + 1, none⟩ = some (.int .i64 (L.getD i rec0).ver) ∧ w.cell? ⟨g, o + i * 5 + 2, none⟩ = some (.int .i64 (L.getD i rec0).kind) ∧
      w.cell? ⟨g, o + i * 5 + 3, none⟩ = some (.string (S (L.getD i rec0).lang)) ∧ w.cell? ⟨g, o + i * 5 + 4, none⟩ = some (us.getD i .nilIface)) →
    ∀ j u, (cellsR L us)[j]? = some u → w.cell? ⟨g, o + j, none⟩ = some u
  | [], _, _, _, _, j, u, hu => by simp [cellsR] at hu
  | f :: t, x :: xs, o, hl, h, j, u, hu => by
    have e : cellsR (f :: t) (x :: xs) = .int .i64 f.id :: .int .i64 f.ver :: .int .i64 f.kind :: .string (S f.lang) :: x :: cellsR t xs := rfl
    rw [e] at hu
    have h0 := h 0 (by simp)
    match j, hu with
    | 0, hu => simp at hu; subst hu; simpa using h0.1
    | 1, hu => simp at hu; subst hu; simpa using h0.2.1
    | 2, hu => simp at hu; subst hu; simpa using h0.2.2.1
    | 3, hu => simp at hu; subst hu; simpa using h0.2.2.2.1
    | 4, hu => simp at hu; subst hu; simpa using h0.2.2.2.2
    | j + 5, hu =>
      simp only [List.getElem?_cons_succ] at hu
      have := cellsR_news t xs (o + 5) (by simpa using hl) (fun i hi => by
        have := h (i + 1) (by simpa using hi)
        rw [show o + (i + 1) * 5 = o + 5 + i * 5 by omega] at this
        exact this) j u hu
      rwa [show o + 5 + j = o + (j + 5) by omega] at this
theorem FL.one {u : Value} {L : List Fld} {w : World} (h : FL u L w) : u.oneCell' = true := by
  obtain ⟨a, cap, rfl, _⟩ := h
  rfl
theorem encR_one (r : Rec) (u : Value) (h : u.oneCell' = true) : ∀ x ∈ encR r u, x.oneCell' = true := by
  intro x hx
  simp only [encR, List.mem_cons, List.not_mem_nil, or_false] at hx
  rcases hx with rfl | rfl | rfl | rfl | rfl
  · rfl
  · rfl
  · rfl
  · rfl
  · exact h
theorem cellsR_one : ∀ (L : List Rec) (us : List Value), (∀ u ∈ us, u.oneCell' = true) → ∀ u ∈ cellsR L us, u.oneCell' = true
  | [], _, _, u, hu => by simp [cellsR] at hu
  | f :: t, [], _, u, hu => by simp [cellsR] at hu
  | f :: t, x :: xs, h, u, hu => by
    rw [cellsR, List.mem_append] at hu
    rcases hu with hu | hu
    · exact encR_one f x (h x (by simp)) u hu
    · exact cellsR_one t xs (fun y hy => h y (List.mem_cons_of_mem _ hy)) u hu
theorem getD_appR (us vs : List Rec) (i : Nat) : (us ++ vs).getD i rec0 = if i < us.length then us.getD i rec0 else vs.getD (i - us.length) rec0 := by
  rw [List.getD_eq_getElem?_getD]
  by_cases h : i < us.length
  · rw [if_pos h, List.getElem?_append_left h, List.getD_eq_getElem?_getD]
  · rw [if_neg h, List.getElem?_append_right (by omega), List.getD_eq_getElem?_getD]
/-- A row whose nested rows are these is a slice of the records. -/
theorem row_rl {B : Nat} {v : Value} {L : List Rec} {us : List Value} {w : World} (hl : us.length = L.length) (hown : w.ownsRow B 31 5 v L.length (cellsR L us))
    (hq : ∀ i, i < L.length → FL (us.getD i .nilIface) (L.getD i rec0).fields w) : RL v L w := by
  rcases hown.2 with ⟨rfl, h0⟩ | ⟨g, cap, cur, rfl, hb, hg, hc, hm, hs, ht⟩
  · have : L = [] := List.eq_nil_of_length_eq_zero h0
    subst this
    exact RL.nil w
  · have hadd : ∀ j, (⟨g, 0, none⟩ : Addr).add j = ⟨g, j, none⟩ := fun j => by unfold Addr.add; split <;> simp_all
    refine ⟨_, cap, rfl, hc, hm, (fun h => by cases h), fun i hi => ?_⟩
    obtain ⟨h0, h1, h2, h3, h4⟩ := cellsR_at L us i hl hi
    have t0 := hown.cells (g := g) rfl _ _ h0
    have t1 := hown.cells (g := g) rfl _ _ h1
    have t2 := hown.cells (g := g) rfl _ _ h2
    have t3 := hown.cells (g := g) rfl _ _ h3
    have t4 := hown.cells (g := g) rfl _ _ h4
    rw [hadd] at t0 t1 t2 t3 t4
    refine ⟨g, 0, us.getD i .nilIface, rfl, (Array.getElem?_eq_some_iff.1 hg).1, ?_⟩
    rw [Nat.zero_add]
    exact ⟨t0, t1, t2, t3, t4, hq i hi⟩

/-- A row of records from block B on; their fields lie in new blocks besides. -/
def RN (B : Nat) (v : Value) (L : List Rec) (w : World) : Prop :=
  ∃ us : List Value, us.length = L.length ∧ w.ownsRow B 31 5 v L.length (cellsR L us) ∧ ∀ i, i < L.length → NewX B v.ownBlock (FL (us.getD i .nilIface) (L.getD i rec0).fields) w
theorem RN.nil (B : Nat) (w : World) : RN B (.slice none 0 0) [] w := ⟨[], rfl, World.ownsRow_nil _ _ _ _, fun i hi => by cases hi⟩
theorem RN.on {B : Nat} {v : Value} {L : List Rec} {w w' : World} (h : RN B v L w) (hs : w.heap.size ≤ w'.heap.size) (hb : ∀ i, B ≤ i → i < w.heap.size → w'.heap[i]? = w.heap[i]?) : RN B v L w' := by
  obtain ⟨us, h1, h2, h3⟩ := h
  exact ⟨us, h1, own_same h2 hb, fun i hi => (h3 i hi).on hs (fun j hj hk _ => hb j hj hk)⟩
theorem RN.after {B : Nat} {v : Value} {L : List Rec} {w w' : World} (h : RN B v L w) (hb : Below w.heap.size w w') : RN B v L w' := h.on hb.size fun i _ hi => hb.block i hi
theorem RN.rl {B : Nat} {v : Value} {L : List Rec} {w : World} (h : RN B v L w) : RL v L w := by
  obtain ⟨us, hl, hown, hq⟩ := h
  exact row_rl hl hown fun i hi => (hq i hi) w (Nat.le_refl _) (fun _ _ _ _ => rfl)
theorem RN.new {B : Nat} {v : Value} {L : List Rec} {w : World} (h : RN B v L w) : New B (RL v L) w := fun _ hs hb => (h.on hs hb).rl
theorem RN.open {B : Nat} {v : Value} {L : List Rec} {w : World} (h : RN B v L w) :
    ∃ xs : List Value, w.ownsRow B 31 5 v L.length xs ∧ ∀ (f : Rec) (u v' : Value) (w' : World), NewX B v.ownBlock (FL u f.fields) w → w.grownBy w' v.ownBlock → (v'.ownBlock = v.ownBlock ∨ v'.ownBlock = some w.heap.size) →
      w'.ownsRow B 31 5 v' (L.length + 1) (xs ++ encR f u) → RN B v' (L ++ [f]) w' := by
  obtain ⟨us, hl, hown, hq⟩ := h
  refine ⟨_, hown, fun f u v' w' hu hg hb hown' => ⟨us ++ [u], by rw [List.length_append, List.length_append, hl]; rfl, ?_, fun i hi => ?_⟩⟩
  · rw [cellsR_snoc L us f u hl, List.length_append]
    exact hown'
  · have hmv : ∀ {P : World → Prop}, NewX B v.ownBlock P w → NewX B v'.ownBlock P w' := fun hp => hp.move hg.size (fun j _ hk hne => hg.block j hk hne) (hb.imp id fun h => ⟨_, h, Nat.le_refl _⟩)
    rw [getD_app, getD_appR, hl]
    by_cases h1 : i < L.length
    · rw [if_pos h1, if_pos h1]; exact hmv (hq i h1)
    · have : i = L.length := by rw [List.length_append] at hi; simp at hi; omega
      subst this
      rw [if_neg h1, if_neg h1, Nat.sub_self]
      exact hmv hu

/-- A row of records of the call's own, from block B on, nil while it is empty; their fields lie in W0. -/
def RR (W0 : World) (B : Nat) (v : Value) (L : List Rec) (w : World) : Prop :=
  ∃ us : List Value, us.length = L.length ∧ w.ownsRow B 31 5 v L.length (cellsR L us) ∧ ∀ i, i < L.length → FL (us.getD i .nilIface) (L.getD i rec0).fields W0
theorem RR.nil (W0 w : World) (B : Nat) : RR W0 B (.slice none 0 0) [] w := ⟨[], rfl, World.ownsRow_nil _ _ _ _, fun i hi => by cases hi⟩
theorem RR.rl {W0 : World} {B : Nat} {v : Value} {L : List Rec} {w : World} (h : RR W0 B v L w) (hbel : Below W0.heap.size W0 w) : RL v L w := by
  obtain ⟨us, hl, hown, hq⟩ := h
  exact row_rl hl hown fun i hi => (hq i hi).after hbel
theorem RR.after {W0 : World} {B : Nat} {v : Value} {L : List Rec} {w w' : World} (h : RR W0 B v L w) (hb : Below w.heap.size w w') : RR W0 B v L w' := by
  obtain ⟨us, h1, h2, h3⟩ := h
  exact ⟨us, h1, own_after h2 hb, h3⟩
theorem RR.open {W0 : World} {B : Nat} {v : Value} {L : List Rec} {w : World} (h : RR W0 B v L w) :
    ∃ xs : List Value, w.ownsRow B 31 5 v L.length xs ∧ ∀ (M : List Rec) (vs : List Value) (v' : Value) (w' : World), vs.length = M.length → (∀ i, i < M.length → FL (vs.getD i .nilIface) (M.getD i rec0).fields W0) →
      w'.ownsRow B 31 5 v' (L.length + M.length) (xs ++ cellsR M vs) → RR W0 B v' (L ++ M) w' := by
  obtain ⟨us, hl, hown, hq⟩ := h
  refine ⟨_, hown, fun M vs v' w' hvl hvq hown' => ⟨us ++ vs, by rw [List.length_append, List.length_append, hl, hvl], ?_, fun i hi => ?_⟩⟩
  · rw [cellsR_app L us M vs hl, List.length_append]
    exact hown'
  · rw [getD_app, getD_appR, hl]
    by_cases h1 : i < L.length
    · rw [if_pos h1, if_pos h1]; exact hq i h1
    · rw [if_neg h1, if_neg h1]; exact hvq _ (by rw [List.length_append] at hi; omega)
/-- The fields' values of a slice of records. -/
theorem RL.vals {v : Value} {L : List Rec} {w : World} (h : RL v L w) : ∃ (a : Option Addr) (cap : Nat) (us : List Value), v = .slice a L.length cap ∧ L.length ≤ cap ∧ cap ≤ maxLen ∧ (a = none → cap = 0) ∧ us.length = L.length ∧ (∀ i, i < L.length → FL (us.getD i .nilIface) (L.getD i rec0).fields w) ∧
    ∀ g o s, a = some ⟨g, o, s⟩ → L ≠ [] → s = none ∧ g < w.heap.size ∧ ∀ j u, (cellsR L us)[j]? = some u → w.cell? ⟨g, o + j, none⟩ = some u := by
  obtain ⟨a, cap, rfl, hc, hm, hn, hx⟩ := h
  have hch : ∀ i, ∃ u, i < L.length → ∃ g o, a = some ⟨g, o, none⟩ ∧ g < w.heap.size ∧ (w.cell? ⟨g, o + i * 5, none⟩ = some (.int .i64 (L.getD i rec0).id) ∧ w.cell? ⟨g, o + i * 5 + 1, none⟩ = some (.int .i64 (L.getD i rec0).ver) ∧ w.cell? ⟨g, o + i * 5 + 2, none⟩ = some (.int .i64 (L.getD i rec0).kind) ∧
      w.cell? ⟨g, o + i * 5 + 3, none⟩ = some (.string (S (L.getD i rec0).lang)) ∧ w.cell? ⟨g, o + i * 5 + 4, none⟩ = some u) ∧ FL u (L.getD i rec0).fields w := by
    intro i
    by_cases hi : i < L.length
    · obtain ⟨g, o, u, h1, hg, h0, h2, h3, h4, h5, hq⟩ := hx i hi
      exact ⟨u, fun _ => ⟨g, o, h1, hg, ⟨h0, h2, h3, h4, h5⟩, hq⟩⟩
    · exact ⟨.nilIface, fun h => absurd h hi⟩
  obtain ⟨F, hF⟩ : ∃ F : Nat → Value, ∀ i, i < L.length → ∃ g o, a = some ⟨g, o, none⟩ ∧ g < w.heap.size ∧ (w.cell? ⟨g, o + i * 5, none⟩ = some (.int .i64 (L.getD i rec0).id) ∧ w.cell? ⟨g, o + i * 5 + 1, none⟩ = some (.int .i64 (L.getD i rec0).ver) ∧ w.cell? ⟨g, o + i * 5 + 2, none⟩ = some (.int .i64 (L.getD i rec0).kind) ∧
      w.cell? ⟨g, o + i * 5 + 3, none⟩ = some (.string (S (L.getD i rec0).lang)) ∧ w.cell? ⟨g, o + i * 5 + 4, none⟩ = some (F i)) ∧ FL (F i) (L.getD i rec0).fields w := ⟨fun i => Classical.choose (hch i), fun i => Classical.choose_spec (hch i)⟩
  have hg : ∀ i, i < L.length → ((List.range L.length).map F).getD i .nilIface = F i := fun i hi => by
    rw [List.getD_eq_getElem?_getD, List.getElem?_map, List.getElem?_range hi]
    simp
  refine ⟨a, cap, (List.range L.length).map F, rfl, hc, hm, hn, by simp, fun i hi => ?_, fun g o s ha hne => ?_⟩
  · rw [hg i hi]
    obtain ⟨g, o, _, _, _, hq⟩ := hF i hi
    exact hq
  · have h0 : 0 < L.length := List.length_pos_iff.2 hne
    obtain ⟨g', o', h1, h2, _⟩ := hF 0 h0
    rw [h1] at ha
    obtain ⟨rfl, rfl, rfl⟩ : g' = g ∧ o' = o ∧ none = s := by
      have := Option.some.inj ha
      injection this with a1 a2 a3
      exact ⟨a1, a2, a3⟩
    refine ⟨rfl, h2, cellsR_news L _ _ (by simp) fun i hi => ?_⟩
    obtain ⟨g2, o2, h3, _, h5, _⟩ := hF i hi
    rw [h1] at h3
    have := Option.some.inj h3
    injection this with a1 a2 a3
    subst a1
    subst a2
    rw [hg i hi]
    exact h5
theorem infoRec : (Tryd.prog.info? 31).map (fun i => (i.zero, i.size, i.bytes)) = some (some (.agg #[.int .i64 0, .int .i64 0, .int .i64 0, .string ⟨#[]⟩, .slice none 0 0]), 5, 64) := by kernel_rfl
theorem info_rec : ∃ i0, Tryd.prog.info? 31 = some i0 ∧ i0.zero = some (.agg #[.int .i64 0, .int .i64 0, .int .i64 0, .string ⟨#[]⟩, .slice none 0 0]) ∧ i0.size = 5 ∧ i0.bytes = 64 := by
  obtain ⟨i0, h0, h2⟩ := Option.map_eq_some_iff.1 infoRec
  simp only [Prod.mk.injEq] at h2
  exact ⟨i0, h0, h2.1, h2.2.1, h2.2.2⟩
theorem cells_five (w : World) (a b c d e : Value) (t : TypeId) : ∀ j u, [a, b, c, d, e][j]? = some u → (w.alloc (.cells #[a, b, c, d, e] t)).cell? ((⟨w.heap.size, 0, none⟩ : Addr).add j) = some u := by
  intro j u hj
  match j, hj with
  | 0, hj => simp at hj; subst hj; simp [Addr.add]
  | 1, hj => simp at hj; subst hj; simp [Addr.add]
  | 2, hj => simp at hj; subst hj; simp [Addr.add]
  | 3, hj => simp at hj; subst hj; simp [Addr.add]
  | 4, hj => simp at hj; subst hj; simp [Addr.add]
  | (j + 5), hj => simp at hj
def RCells (N : Nat) (id ver kind : Int) (lang : ByteArray) (fv : Value) (wr : World) : Prop :=
  (wr.cell? ⟨N, 0, none⟩ = some (.int .i64 id) ∧ wr.cell? ⟨N, 1, none⟩ = some (.int .i64 ver) ∧ wr.cell? ⟨N, 2, none⟩ = some (.int .i64 kind) ∧ wr.cell? ⟨N, 3, none⟩ = some (.string lang) ∧ wr.cell? ⟨N, 4, none⟩ = some fv) ∧
  (wr.frozen? ⟨N, 0, none⟩ = false ∧ wr.frozen? ⟨N, 1, none⟩ = false ∧ wr.frozen? ⟨N, 2, none⟩ = false ∧ wr.frozen? ⟨N, 3, none⟩ = false ∧ wr.frozen? ⟨N, 4, none⟩ = false)
theorem rcells {N : Nat} {id ver kind : Int} {lang : ByteArray} {fv : Value} {wr : World} (h : wr.heap[N]? = some (.cells #[.int .i64 id, .int .i64 ver, .int .i64 kind, .string lang, fv] 31 (0, 0))) : RCells N id ver kind lang fv wr := by
  refine ⟨⟨?_, ?_, ?_, ?_, ?_⟩, Lib.frozen_of_heap h 0, Lib.frozen_of_heap h 1, Lib.frozen_of_heap h 2, Lib.frozen_of_heap h 3, Lib.frozen_of_heap h 4⟩ <;> (rw [Lib.cell_of_heap h]; rfl)
theorem results_row_tmp10 {P : Program} {fn : Func} {p u : Tmp} {ty : TypeId} (h : fn.results = #[.cell p ty, .tmp u]) (tmps : Array Value) (w : World) (g : Nat) (t : TypeId) (cs : Array Value) (fr : Nat × Nat) (d : TypeDesc)
    (hp : tmps.getD p undef = .pointer (some ⟨g, 0, none⟩)) (hg : w.heap[g]? = some (.cells cs t fr))
    (hu : P.underlying ty = some d) (hd : (match d with | .struct _ | .array _ _ => true | _ => false) = true) (hi : (P.info? ty).map (·.size) = some cs.size) :
    (results fn tmps).run P w = .ok (.tuple #[.agg cs, tmps.getD u undef]) w := by
  rw [results_cell_tmp h, hp]
  simp [asAddr, run_loadVar_row w g t ty cs fr d hg hu hd hi, Result.andThen]
/-- A record stored in its box. -/
def setR5 (w : World) (b : Nat) (x0 x1 x2 x3 x4 : Value) : World := ((((w.setCell ⟨b, 0, none⟩ x0).setCell ⟨b, 1, none⟩ x1).setCell ⟨b, 2, none⟩ x2).setCell ⟨b, 3, none⟩ x3).setCell ⟨b, 4, none⟩ x4
theorem rec_set5 {w : World} {b : Nat} {c0 c1 c2 c3 c4 x0 x1 x2 x3 x4 : Value} (h : w.heap[b]? = some (.cells #[c0, c1, c2, c3, c4] 31 (0, 0))) :
    (setR5 w b x0 x1 x2 x3 x4).heap[b]? = some (.cells #[x0, x1, x2, x3, x4] 31 (0, 0)) := by
  simp [setR5, World.setCell, Array.getElem?_modify, h]
theorem rec_other {w : World} {b : Nat} {x0 x1 x2 x3 x4 : Value} (i : Nat) (h : i ≠ b) : (setR5 w b x0 x1 x2 x3 x4).heap[i]? = w.heap[i]? := by
  unfold setR5
  rw [heap_setn _ _ _ _ (by exact h), heap_setn _ _ _ _ (by exact h), heap_setn _ _ _ _ (by exact h), heap_setn _ _ _ _ (by exact h), heap_setn _ _ _ _ (by exact h)]
theorem rec_below5 {w W : World} {b : Nat} {x0 x1 x2 x3 x4 : Value} (h : Below b w W) : Below b w (setR5 W b x0 x1 x2 x3 x4) :=
  ((((h.setCell (p := ⟨b, 0, none⟩) (Nat.le_refl _) x0).setCell (p := ⟨b, 1, none⟩) (Nat.le_refl _) x1).setCell (p := ⟨b, 2, none⟩) (Nat.le_refl _) x2).setCell (p := ⟨b, 3, none⟩) (Nat.le_refl _) x3).setCell (p := ⟨b, 4, none⟩) (Nat.le_refl _) x4
theorem rec_size {w : World} {b : Nat} {x0 x1 x2 x3 x4 : Value} : (setR5 w b x0 x1 x2 x3 x4).heap.size = w.heap.size := by simp [setR5, World.setCell]
theorem fl_none (B : Nat) (w : World) : New B (FL (.slice none 0 0) []) w := fun _ _ _ => ⟨none, 0, rfl, Nat.le_refl _, Nat.zero_le _, fun _ => rfl, fun i hi => by cases hi⟩
end

section
open Go.RowKit Go.PlainAid
theorem fcells4 {w : World} {b : Nat} {c0 c1 c2 c3 : Value} (h : w.heap[b]? = some (.cells #[c0, c1, c2, c3] 45 (0, 0))) :
    (w.cell? ⟨b, 0, none⟩ = some c0 ∧ w.cell? ⟨b, 1, none⟩ = some c1 ∧ w.cell? ⟨b, 2, none⟩ = some c2 ∧ w.cell? ⟨b, 3, none⟩ = some c3) ∧
    (w.frozen? ⟨b, 0, none⟩ = false ∧ w.frozen? ⟨b, 1, none⟩ = false ∧ w.frozen? ⟨b, 2, none⟩ = false ∧ w.frozen? ⟨b, 3, none⟩ = false) := by
  refine ⟨⟨?_, ?_, ?_, ?_⟩, Lib.frozen_of_heap h 0, Lib.frozen_of_heap h 1, Lib.frozen_of_heap h 2, Lib.frozen_of_heap h 3⟩
  · rw [Lib.cell_of_heap h]; rfl
  · rw [Lib.cell_of_heap h]; rfl
  · rw [Lib.cell_of_heap h]; rfl
  · rw [Lib.cell_of_heap h]; rfl
def setF4 (w : World) (b : Nat) (x0 x1 x2 x3 : Value) : World := (((w.setCell ⟨b, 0, none⟩ x0).setCell ⟨b, 1, none⟩ x1).setCell ⟨b, 2, none⟩ x2).setCell ⟨b, 3, none⟩ x3
theorem setF4_heap {w : World} {b : Nat} {c0 c1 c2 c3 x0 x1 x2 x3 : Value} (h : w.heap[b]? = some (.cells #[c0, c1, c2, c3] 45 (0, 0))) :
    (setF4 w b x0 x1 x2 x3).heap[b]? = some (.cells #[x0, x1, x2, x3] 45 (0, 0)) := by
  unfold setF4
  simp [World.setCell, Array.getElem?_modify, h]
theorem setF4_below {w0 w : World} {b B : Nat} (h : Below B w0 w) (hb : B ≤ b) (x0 x1 x2 x3 : Value) : Below B w0 (setF4 w b x0 x1 x2 x3) :=
  (((h.setCell (p := ⟨b, 0, none⟩) hb x0).setCell (p := ⟨b, 1, none⟩) hb x1).setCell (p := ⟨b, 2, none⟩) hb x2).setCell (p := ⟨b, 3, none⟩) hb x3
theorem setF4_other {w : World} {b : Nat} (x0 x1 x2 x3 : Value) (g : Nat) (hg : g ≠ b) : (setF4 w b x0 x1 x2 x3).heap[g]? = w.heap[g]? := by
  unfold setF4
  rw [heap_setn _ _ _ _ hg, heap_setn _ _ _ _ hg, heap_setn _ _ _ _ hg, heap_setn _ _ _ _ hg]
theorem setF4_size (w : World) (b : Nat) (x0 x1 x2 x3 : Value) : (setF4 w b x0 x1 x2 x3).heap.size = w.heap.size := by
  unfold setF4
  simp [World.setCell]

/-- A copy of a field: its subfields lie in a row of the call's own, behind its two boxes. -/
theorem mcloneF_any (f : Fld) (u : Value) (w : World) (hu : QL u f.subs w) (hs : f.subs.length ≤ 100000) :
    Calls Tryd.prog 29 #[FV f u] w fun e w' => ∃ v', e = .returned (FV f v') ∧ SB (w.heap.size + 2) v' f.subs w' ∧ Below w.heap.size w w' := by
  unfold FV
  obtain ⟨a, cap, rfl, _, _⟩ := hu.length
  obtain ⟨W0, hW0⟩ : ∃ W0, (w.alloc (.cells #[.string (S f.tag), .string (S f.ind), .slice a f.subs.length cap, .int .i64 f.auth] 45)).alloc (.cells #[.string ⟨#[]⟩, .string ⟨#[]⟩, .slice none 0 0, .int .i64 0] 45) = W0 := ⟨_, rfl⟩
  have b0 : Below w.heap.size w W0 := by rw [← hW0]; exact ((Below.refl w.heap.size w).alloc (Nat.le_refl _) _).alloc (by simp) _
  have hsz0 : W0.heap.size = w.heap.size + 2 := by rw [← hW0]; simp
  have hF : W0.heap[w.heap.size]? = some (.cells #[.string (S f.tag), .string (S f.ind), .slice a f.subs.length cap, .int .i64 f.auth] 45 (0, 0)) := by
    rw [← hW0]
    exact (Below.heap_alloc _ _ _ (by simp)).trans (heap_alloc_new w _)
  have hR : W0.heap[w.heap.size + 1]? = some (.cells #[.string ⟨#[]⟩, .string ⟨#[]⟩, .slice none 0 0, .int .i64 0] 45 (0, 0)) := by
    rw [← hW0]
    have := heap_alloc_new (w.alloc (.cells #[.string (S f.tag), .string (S f.ind), .slice a f.subs.length cap, .int .i64 f.auth] 45)) (.cells #[.string ⟨#[]⟩, .string ⟨#[]⟩, .slice none 0 0, .int .i64 0] 45)
    simpa using this
  have hlt : w.heap.size < W0.heap.size := by omega
  have hlt1 : w.heap.size + 1 < W0.heap.size := by omega
  have cC := Lib.hid (clone_any f.subs _ W0 (hu.after b0) hs)
  rw [hsz0] at cC
  have HW0 := Lib.hid hW0
  have HF := Lib.hid (fun (W : World) (h : Below (w.heap.size + 2) W0 W) => (h.block _ (by omega)).trans hF)
  have HR := Lib.hid (fun (W : World) (h : Below (w.heap.size + 2) W0 W) => (h.block _ (by omega)).trans hR)
  have HB0 := Lib.hid b0
  have k2 : W0.cell? ⟨w.heap.size, 2, none⟩ = some (.slice a f.subs.length cap) := (fcells4 hF).1.2.2.1
  have HSz := Lib.hid hsz0
  clear hW0 hF hR hu b0 hsz0 hlt hlt1
  generalize hsb : f.subs = sb at *
  clear hsb
  generalize hn : sb.length = n at *
  have HN := Lib.hid hn
  clear hn
  generalize S f.tag = t0 at *
  generalize S f.ind = t1 at *
  generalize f.auth = t3 at *
  go_enter Tryd.func29, Tryd.ntmps29
  go_upto_region 1 with fail
  rw [HW0.out]
  go_wp2_with fail
  refine cC.out.mono ?_
  rintro e w1 ⟨v, rfl, hown, hb1⟩
  have hF1 := HF.out w1 hb1
  have hR1 := HR.out w1 hb1
  have hS1 : SB (w.heap.size + 2) v sb w1 := by unfold SB; rw [HN.out]; exact hown
  obtain ⟨⟨p0, p1, p2, p3⟩, q0, q1, q2, q3⟩ := fcells4 hF1
  obtain ⟨⟨r0, r1, r2, r3⟩, s0, s1, s2, s3⟩ := fcells4 hR1
  have HS1 := Lib.hid hS1
  have HF1 := Lib.hid hF1
  have HR1 := Lib.hid hR1
  have HB1 : RowKit.Hid (Below w.heap.size w w1) := HB0.out.trans (hb1.mono (by omega))
  obtain ⟨ao, cp, rfl⟩ := own_form hown
  have HFin : RowKit.Hid ((setF4 (w1.setCell ⟨w.heap.size, 2, none⟩ (.slice ao n cp)) (w.heap.size + 1) (.string t0) (.string t1) (.slice ao n cp) (.int .i64 t3)).heap[w.heap.size + 1]? = some (.cells #[.string t0, .string t1, .slice ao n cp, .int .i64 t3] 45 (0, 0))) :=
    setF4_heap ((heap_setn _ _ _ _ (by simp)).trans HR1.out)
  have HSF : RowKit.Hid (SB (w.heap.size + 2) (.slice ao n cp) sb (setF4 (w1.setCell ⟨w.heap.size, 2, none⟩ (.slice ao n cp)) (w.heap.size + 1) (.string t0) (.string t1) (.slice ao n cp) (.int .i64 t3))) :=
    HS1.out.kept (fun i hi hl => (setF4_other _ _ _ _ i (by omega)).trans (heap_setn _ _ _ _ (by simp; omega)))
  have HBF : RowKit.Hid (Below w.heap.size w (setF4 (w1.setCell ⟨w.heap.size, 2, none⟩ (.slice ao n cp)) (w.heap.size + 1) (.string t0) (.string t1) (.slice ao n cp) (.int .i64 t3))) :=
    setF4_below (HB1.out.setCell (p := ⟨w.heap.size, 2, none⟩) (Nat.le_refl _) _) (by omega) _ _ _ _
  unfold setF4 at HFin HSF HBF
  clear hown hb1 hF1 hR1 hS1 cC k2
  go_wp2
  (try simp only [Exit.inBlock, Exit.then])
  refine bodyPost_ret (results_cell_row rfl _ _ (w.heap.size + 1) _ _ _ _ rfl HFin.out Tryd.underlying45 rfl (by kernel_rfl)) rfl ?_
  exact ⟨_, rfl, HSF.out, HBF.out⟩
end

section
open Go.RowKit Go.PlainAid
/-- A field in its box. -/
def FBx (b : Nat) (f : Fld) (u : Value) (W : World) : Prop := W.heap[b]? = some (.cells #[.string (S f.tag), .string (S f.ind), u, .int .i64 f.auth] 45 (0, 0)) ∧ QL u f.subs W
theorem FBx.after {b : Nat} {f : Fld} {u : Value} {W W' : World} (h : FBx b f u W) (hb : Below W.heap.size W W') : FBx b f u W' :=
  ⟨(hb.block b (Array.getElem?_eq_some_iff.1 h.1).1).trans h.1, h.2.after hb⟩
theorem FBx.new {f : Fld} {u : Value} {W : World} (h : QL u f.subs W) : FBx W.heap.size f u (W.alloc (.cells #[.string (S f.tag), .string (S f.ind), u, .int .i64 f.auth] 45)) :=
  ⟨heap_alloc_new W _, h.after ((Below.refl _ W).alloc (Nat.le_refl _) _)⟩

set_option maxHeartbeats 4000000 in
theorem msame_any (f : Fld) (u : Value) (w : World) (hu : QL u f.subs w) :
    Calls Tryd.prog 44 #[FV f u] w fun e w' => e = .returned (.func (.func 55) #[] #[.pointer (some ⟨w.heap.size, 0, none⟩)]) ∧ FBx w.heap.size f u w' ∧ Below w.heap.size w w' := by
  obtain ⟨ga, gc, hgu, -, -⟩ := hu.length
  have HN := Lib.hid (FBx.new hu)
  have HB := Lib.hid ((Below.refl w.heap.size w).alloc (Nat.le_refl _) (.cells #[.string (S f.tag), .string (S f.ind), u, .int .i64 f.auth] 45))
  unfold FV
  subst hgu
  clear hu
  generalize hn : f.subs.length = n at *
  generalize hst : S f.tag = st at *
  generalize hsi : S f.ind = si at *
  generalize hfa : f.auth = fa at *
  go_enter Tryd.func44, Tryd.ntmps44
  go_wp2
  go_ret
  exact ⟨rfl, HN.out, HB.out⟩

set_option maxHeartbeats 4000000 in
theorem sameF_any (f : Fld) (u : Value) (b : Nat) (g : Fld) (v : Value) (w : World) (hb : FBx b f u w) (hv : QL v g.subs w) (r : Bool) (hr : sameB f g = r) :
    Calls Tryd.prog 55 #[FV g v, .pointer (some ⟨b, 0, none⟩)] w fun e w' => e = .returned (.bool r) ∧ Below w.heap.size w w' := by
  obtain ⟨W0, hW0⟩ : ∃ W0, w.alloc (.cells #[.string (S g.tag), .string (S g.ind), v, .int .i64 g.auth] 45) = W0 := ⟨_, rfl⟩
  have b0 : Below w.heap.size w W0 := by rw [← hW0]; exact (Below.refl w.heap.size w).alloc (Nat.le_refl _) _
  have hX : W0.heap[w.heap.size]? = some (.cells #[.string (S g.tag), .string (S g.ind), v, .int .i64 g.auth] 45 (0, 0)) := by rw [← hW0]; exact heap_alloc_new w _
  have hF := hb.after b0
  obtain ⟨⟨p0, p1, p2, p3⟩, -⟩ := fcells4 hF.1
  obtain ⟨⟨q0, q1, q2, q3⟩, -⟩ := fcells4 hX
  have cS := Lib.hid (fSame_any f g u v W0 hF.2 (hv.after b0) r hr)
  have HB := Lib.hid b0
  have HW0 := Lib.hid hW0
  obtain ⟨va, vc, hva, -, -⟩ := hv.length
  obtain ⟨ua, uc, hua, -, -⟩ := hb.2.length
  unfold FV at *
  subst hva hua
  clear hb hv hr hX hF hW0 b0
  generalize hn : f.subs.length = fn at *
  generalize hm : g.subs.length = gn at *
  clear hn hm
  generalize S f.tag = ft at *
  generalize S f.ind = fi at *
  generalize f.auth = fa at *
  generalize S g.tag = gt at *
  generalize S g.ind = gi at *
  generalize g.auth = gau at *
  go_enter Tryd.func55, Tryd.ntmps55
  go_upto_region 1 with fail
  rw [HW0.out]
  clear HW0
  go_wp2_with fail
  refine cS.out.mono ?_
  rintro e w1 ⟨rfl, hb1⟩
  have HF := Lib.hid (HB.out.trans (hb1.mono HB.out.size))
  clear hb1 cS
  go_wp2
  go_ret
  exact ⟨rfl, HF.out⟩

set_option maxHeartbeats 4000000 in
theorem tagF_any (f : Fld) (u : Value) (b : Nat) (g : Fld) (v : Value) (w : World) (hb : FBx b f u w) (_hv : QL v g.subs w) (r : Bool) (hr : decide (g.tag = f.tag) = r) :
    Calls Tryd.prog 45 #[FV g v, .pointer (some ⟨b, 0, none⟩)] w fun e w' => e = .returned (.bool r) ∧ Below w.heap.size w w' := by
  obtain ⟨W0, hW0⟩ : ∃ W0, w.alloc (.cells #[.string (S g.tag), .string (S g.ind), v, .int .i64 g.auth] 45) = W0 := ⟨_, rfl⟩
  have b0 : Below w.heap.size w W0 := by rw [← hW0]; exact (Below.refl w.heap.size w).alloc (Nat.le_refl _) _
  have hX : W0.heap[w.heap.size]? = some (.cells #[.string (S g.tag), .string (S g.ind), v, .int .i64 g.auth] 45 (0, 0)) := by rw [← hW0]; exact heap_alloc_new w _
  have hF := hb.after b0
  obtain ⟨⟨p0, p1, p2, p3⟩, -⟩ := fcells4 hF.1
  obtain ⟨⟨q0, q1, q2, q3⟩, -⟩ := fcells4 hX
  have hS := S_eq g.tag f.tag
  rw [hr] at hS
  have HB := Lib.hid b0
  have HW0 := Lib.hid hW0
  unfold FV at *
  clear hb hr hX hF hW0 b0
  generalize S f.tag = ft at *
  generalize S f.ind = fi at *
  generalize f.auth = fa at *
  generalize S g.tag = gt at *
  generalize S g.ind = gi at *
  generalize g.auth = gau at *
  go_enter Tryd.func45, Tryd.ntmps45
  go_upto_region 1 with fail
  rw [HW0.out]
  clear HW0
  go_wp2
  go_ret
  exact ⟨rfl, HB.out⟩

theorem any_hit16 {p : Fld → Bool} {L : List Fld} {i : Nat} (h : i < L.length) (e : p (L.getD i fd0) = true) : L.any p = true := by
  rw [List.any_eq_true]
  refine ⟨L.getD i fd0, ?_, e⟩
  rw [List.getD_eq_getElem?_getD, List.getElem?_eq_getElem h]
  exact List.getElem_mem h
theorem any_miss16 {p : Fld → Bool} {L : List Fld} (h : ∀ i, i < L.length → p (L.getD i fd0) = false) : L.any p = false := by
  rw [List.any_eq_false]
  intro x hx
  obtain ⟨i, hi, rfl⟩ := List.getElem_of_mem hx
  have := h i hi
  rw [List.getD_eq_getElem?_getD, List.getElem?_eq_getElem hi] at this
  exact fun g => by rw [show L[i] = (some L[i]).getD fd0 from rfl, this] at g; cases g

set_option maxHeartbeats 8000000 in
theorem sameIx_any (f : Fld) (fu : Value) (b : Nat) (L : List Fld) (v : Value) (w : World) (hv : FL v L w) (hb : FBx b f fu w) (r : Bool) (hr : L.any (fun g => sameB f g) = r) :
    Calls Tryd.prog 54 #[v, .func (.func 55) #[] #[.pointer (some ⟨b, 0, none⟩)]] w fun e w' => ∃ k : Int, e = .returned (.int .i64 k) ∧ decide (0 ≤ k) = r ∧ Below w.heap.size w w' := by
  obtain ⟨a, ca, g, o, us, rfl, hca, hm, hga, hxa⟩ := hv.open16
  have HYes := Lib.hid (fun i (hi : i < L.length) (e : (fun g => sameB f g) (L.getD i fd0) = true) => show r = true from hr.symm.trans (any_hit16 hi e))
  have HNo := Lib.hid (fun (h : ∀ i, i < L.length → (fun g => sameB f g) (L.getD i fd0) = false) => show r = false from hr.symm.trans (any_miss16 h))
  unfold maxLen at hm
  obtain ⟨n, hn⟩ : ∃ n, L.length = n := ⟨_, rfl⟩
  rw [hn] at hca hga hxa HYes HNo ⊢
  have HXA := Lib.hid hxa
  have cF := Lib.hid (fun (W : World) (h : Below w.heap.size w W) (i : Nat) (ux : Value) (hq : QL ux (L.getD i fd0).subs W) (q : Bool) (e : (fun g => sameB f g) (L.getD i fd0) = q) => sameF_any f fu b (L.getD i fd0) ux W (hb.after h) hq q e)
  have HR := Lib.hid (Below.refl w.heap.size w)
  clear hn hv hxa hr hb
  go_enter Tryd.func54, Tryd.ntmps54
  go_wp2
  go_loopw [8] (fun s8 wr => ∃ i : Nat, s8 = .int .i64 (i : Int) ∧ i ≤ n ∧ RowKit.Hid (∀ a, a < i → (fun g => sameB f g) (L.getD a fd0) = false) ∧ RowKit.Hid (Below w.heap.size w wr)) (fun s8 _ => n - (intOf s8).toNat)
  case atStart => exact ⟨0, rfl, Nat.zero_le _, (fun a h2 => by omega), HR.out⟩
  case round =>
    obtain ⟨i, rfl, hi, HI, HB⟩ := hrel
    have i1 : (0 : Int) ≤ (i : Int) := by omega
    by_cases hin : i < n
    · have i2 : (i : Int) < (n : Int) := by omega
      obtain rfl := hga (by omega)
      obtain ⟨⟨c1, c2, c3, c4⟩, hq⟩ := HXA.out wr HB.out i hin
      obtain ⟨xa, xc, hxu, -, -⟩ := hq.length
      obtain ⟨q, hqe⟩ : ∃ q, (fun g => sameB f g) (L.getD i fd0) = q := ⟨_, rfl⟩
      have cC := Lib.hid (cF.out wr HB.out i (us i) hq q hqe)
      have HI2 := Lib.hid (fun (hq0 : q = false) => show (∀ a, a < i + 1 → (fun g => sameB f g) (L.getD a fd0) = false) from by
        intro a h2
        rcases Nat.lt_or_ge a i with h | h
        · exact HI.out a h
        · rw [show a = i by omega, hqe]; exact hq0)
      have HY := Lib.hid (fun (hq1 : q = true) => show r = true from HYes.out i hin (hqe.trans hq1))
      unfold FV at cC
      rw [hxu] at c3 cC
      clear hq hqe hxu HYes HI
      generalize (L.getD i fd0).subs.length = nx at *
      generalize S (L.getD i fd0).tag = y0 at *
      generalize S (L.getD i fd0).ind = y1 at *
      generalize (L.getD i fd0).auth = y3 at *
      go_wp2_with fail
      refine cC.out.mono ?_
      rintro e w1 ⟨rfl, hb1⟩
      have HB2 := Lib.hid (HB.out.trans (hb1.mono HB.out.size))
      clear hb1 cC HB c1 c2 c3 c4
      cases q with
      | true =>
        have hr := HY.out rfl
        subst hr
        clear HY HI2 HNo
        go_wp2
        go_ret
        exact ⟨_, rfl, decide_eq_true i1, HB2.out⟩
      | false =>
        clear HY
        go_wp2
        go_roundw
        case rel => exact ⟨i + 1, by go_num, by omega, HI2.out (by simp), HB2.out⟩
        case measure => simp [intOf]; omega
    · obtain rfl : i = n := by omega
      have hr := HNo.out HI.out
      subst hr
      have HF := Lib.hid HB.out
      clear HI HYes HNo HB
      go_wp2
      go_ret
      exact ⟨_, rfl, rfl, HF.out⟩
set_option maxHeartbeats 4000000 in
theorem sameIn_any (f : Fld) (fu : Value) (b : Nat) (L : List Fld) (v : Value) (w : World) (hv : FL v L w) (hb : FBx b f fu w) (r : Bool) (hr : L.any (fun g => sameB f g) = r) :
    Calls Tryd.prog 43 #[v, .func (.func 55) #[] #[.pointer (some ⟨b, 0, none⟩)]] w fun e w' => e = .returned (.bool r) ∧ Below w.heap.size w w' := by
  have cI := Lib.hid (sameIx_any f fu b L v w hv hb r hr)
  obtain ⟨a, ca, rfl, -, -⟩ := hv.length
  clear hv hb hr
  generalize L.length = n at *
  go_enter Tryd.func43, Tryd.ntmps43
  go_wp2_with fail
  refine cI.out.mono ?_
  rintro e w1 ⟨k, rfl, hk, hb1⟩
  have HB := Lib.hid hb1
  clear hb1 cI
  subst hk
  go_wp2
  go_ret
  exact ⟨rfl, HB.out⟩

set_option maxHeartbeats 8000000 in
theorem tagIx_any (f : Fld) (fu : Value) (b : Nat) (L : List Fld) (v : Value) (w : World) (hv : FL v L w) (hb : FBx b f fu w) (r : Bool) (hr : L.any (fun g => decide (g.tag = f.tag)) = r) :
    Calls Tryd.prog 54 #[v, .func (.func 45) #[] #[.pointer (some ⟨b, 0, none⟩)]] w fun e w' => ∃ k : Int, e = .returned (.int .i64 k) ∧ decide (0 ≤ k) = r ∧ Below w.heap.size w w' := by
  obtain ⟨a, ca, g, o, us, rfl, hca, hm, hga, hxa⟩ := hv.open16
  have HYes := Lib.hid (fun i (hi : i < L.length) (e : (fun g => decide (g.tag = f.tag)) (L.getD i fd0) = true) => show r = true from hr.symm.trans (any_hit16 hi e))
  have HNo := Lib.hid (fun (h : ∀ i, i < L.length → (fun g => decide (g.tag = f.tag)) (L.getD i fd0) = false) => show r = false from hr.symm.trans (any_miss16 h))
  unfold maxLen at hm
  obtain ⟨n, hn⟩ : ∃ n, L.length = n := ⟨_, rfl⟩
  rw [hn] at hca hga hxa HYes HNo ⊢
  have HXA := Lib.hid hxa
  have cF := Lib.hid (fun (W : World) (h : Below w.heap.size w W) (i : Nat) (ux : Value) (hq : QL ux (L.getD i fd0).subs W) (q : Bool) (e : (fun g => decide (g.tag = f.tag)) (L.getD i fd0) = q) => tagF_any f fu b (L.getD i fd0) ux W (hb.after h) hq q e)
  have HR := Lib.hid (Below.refl w.heap.size w)
  clear hn hv hxa hr hb
  go_enter Tryd.func54, Tryd.ntmps54
  go_wp2
  go_loopw [8] (fun s8 wr => ∃ i : Nat, s8 = .int .i64 (i : Int) ∧ i ≤ n ∧ RowKit.Hid (∀ a, a < i → (fun g => decide (g.tag = f.tag)) (L.getD a fd0) = false) ∧ RowKit.Hid (Below w.heap.size w wr)) (fun s8 _ => n - (intOf s8).toNat)
  case atStart => exact ⟨0, rfl, Nat.zero_le _, (fun a h2 => by omega), HR.out⟩
  case round =>
    obtain ⟨i, rfl, hi, HI, HB⟩ := hrel
    have i1 : (0 : Int) ≤ (i : Int) := by omega
    by_cases hin : i < n
    · have i2 : (i : Int) < (n : Int) := by omega
      obtain rfl := hga (by omega)
      obtain ⟨⟨c1, c2, c3, c4⟩, hq⟩ := HXA.out wr HB.out i hin
      obtain ⟨xa, xc, hxu, -, -⟩ := hq.length
      obtain ⟨q, hqe⟩ : ∃ q, (fun g => decide (g.tag = f.tag)) (L.getD i fd0) = q := ⟨_, rfl⟩
      have cC := Lib.hid (cF.out wr HB.out i (us i) hq q hqe)
      have HI2 := Lib.hid (fun (hq0 : q = false) => show (∀ a, a < i + 1 → (fun g => decide (g.tag = f.tag)) (L.getD a fd0) = false) from by
        intro a h2
        rcases Nat.lt_or_ge a i with h | h
        · exact HI.out a h
        · rw [show a = i by omega, hqe]; exact hq0)
      have HY := Lib.hid (fun (hq1 : q = true) => show r = true from HYes.out i hin (hqe.trans hq1))
      unfold FV at cC
      rw [hxu] at c3 cC
      clear hq hqe hxu HYes HI
      generalize (L.getD i fd0).subs.length = nx at *
      generalize S (L.getD i fd0).tag = y0 at *
      generalize S (L.getD i fd0).ind = y1 at *
      generalize (L.getD i fd0).auth = y3 at *
      go_wp2_with fail
      refine cC.out.mono ?_
      rintro e w1 ⟨rfl, hb1⟩
      have HB2 := Lib.hid (HB.out.trans (hb1.mono HB.out.size))
      clear hb1 cC HB c1 c2 c3 c4
      cases q with
      | true =>
        have hr := HY.out rfl
        subst hr
        clear HY HI2 HNo
        go_wp2
        go_ret
        exact ⟨_, rfl, decide_eq_true i1, HB2.out⟩
      | false =>
        clear HY
        go_wp2
        go_roundw
        case rel => exact ⟨i + 1, by go_num, by omega, HI2.out (by simp), HB2.out⟩
        case measure => simp [intOf]; omega
    · obtain rfl : i = n := by omega
      have hr := HNo.out HI.out
      subst hr
      have HF := Lib.hid HB.out
      clear HI HYes HNo HB
      go_wp2
      go_ret
      exact ⟨_, rfl, rfl, HF.out⟩
set_option maxHeartbeats 4000000 in
theorem tagIn_any (f : Fld) (fu : Value) (b : Nat) (L : List Fld) (v : Value) (w : World) (hv : FL v L w) (hb : FBx b f fu w) (r : Bool) (hr : L.any (fun g => decide (g.tag = f.tag)) = r) :
    Calls Tryd.prog 43 #[v, .func (.func 45) #[] #[.pointer (some ⟨b, 0, none⟩)]] w fun e w' => e = .returned (.bool r) ∧ Below w.heap.size w w' := by
  have cI := Lib.hid (tagIx_any f fu b L v w hv hb r hr)
  obtain ⟨a, ca, rfl, -, -⟩ := hv.length
  clear hv hb hr
  generalize L.length = n at *
  go_enter Tryd.func43, Tryd.ntmps43
  go_wp2_with fail
  refine cI.out.mono ?_
  rintro e w1 ⟨k, rfl, hk, hb1⟩
  have HB := Lib.hid hb1
  clear hb1 cI
  subst hk
  go_wp2
  go_ret
  exact ⟨rfl, HB.out⟩
end

end Go.Proofs.YtceneblmllpdnaaDoor
